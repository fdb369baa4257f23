/- Joined texts: DrpS. -/
import Derived.Test.YtjklngheehhggaaBd09
set_option linter.unusedSimpArgs false
set_option linter.unusedVariables false
/- Chapter 9: which blocks a seed chooses: the model's. -/
namespace Go.Proofs.Ytjklngheehhggaa
open Go.RowKit G294

set_option maxHeartbeats 400000 in
theorem l9Next_any (s : Nat) (w : World) (hs : s ≤ 100000) : Calls Try.prog 57 #[.int .i64 (s : Int)] w fun e w' => e = .returned (.int .i64 ((nxt s : Nat) : Int)) ∧ w = w' := by
  obtain ⟨z, hz⟩ : ∃ z, z = 75 * s := ⟨_, rfl⟩
  have hzb : z ≤ 7500000 := by omega
  have hm : (75 : Int) * (s : Int) = (z : Int) := by rw [hz]; simp
  have hr : ((z : Int) + 74).tmod 65537 = ((nxt s : Nat) : Int) := by
    have e := rem_nat (z + 74) 65537
    have e2 : nxt s = (z + 74) % 65537 := by rw [hz]; rfl
    rw [e2]; exact e
  have hn := nxt_lt s
  generalize nxt s = t at *
  clear hz
  go_enter Try.func57, Try.ntmps57
  go_wp2_with fail
  go_ret
  exact ⟨rfl, rfl⟩

set_option maxHeartbeats 400000 in
theorem l9Seed_any (n : Int) (w : World) : Calls Try.prog 27 #[.int .i64 n] w fun e w' => e = .returned (.bool (seedOk n)) ∧ w = w' := by
  go_enter Try.func27, Try.ntmps27
  go_wp2_with fail
  refine (l1In_any _ _ _ _).mono ?_
  rintro e w' ⟨rfl, rfl⟩
  go_wp2_with fail
  go_ret
  exact ⟨rfl, rfl⟩

set_option maxRecDepth 100000 in
set_option maxHeartbeats 4000000 in
theorem l9Blocks_own (s b : Nat) (w : World) (hs : s ≤ 100000) (hb1 : 1 ≤ b) (hb2 : b ≤ 12) : Calls Try.prog 29 #[.int .i64 (s : Int), .int .i64 (b : Int)] w (RetInts 3 w (intL (blkN s b))) := by
  obtain ⟨i0, hi0, hz0, hz1, hz2⟩ := info_parts infoBool
  have HN := fun t (ht : t ≤ 100000) W => l9Next_any t W ht
  have HE := Lib.hid (fun n s' got F => @chAt_end s b n s' got F)
  have HSK := Lib.hid (fun n s' got F => @chAt_skip s b n s' got F)
  have HTK := Lib.hid (fun n s' got F => @chAt_take s b n s' got F)
  have HC0 : Hid (chAt s b 0 = (nxt s, fun _ => false, 0)) := Lib.hid (chAt_zero s b)
  have hn0 := nxt_lt s
  have hmb := manyB_le s b
  obtain ⟨hmb4, hmbb⟩ := hmb
  have HM : Hid (((nxt s % 4 + 1 : Nat) : Int) > (b : Int) → manyB s b = b) := fun h => by unfold manyB; omega
  have HM2 : Hid (¬ ((nxt s % 4 + 1 : Nat) : Int) > (b : Int) → manyB s b = nxt s % 4 + 1) := fun h => by unfold manyB; omega
  have HBN : Hid (blkN s b = blkK (inF s b) b) := Lib.hid rfl
  rw [HBN.out]
  clear HBN
  generalize manyB s b = mm at *
  have hcase : ∃ q : Nat, q = nxt s % 4 := ⟨_, rfl⟩
  obtain ⟨q, hq⟩ := hcase
  have hq4 : q < 4 := by omega
  have hqe : ((nxt s : Nat) : Int) % 4 = (q : Int) := by omega
  rw [← hq] at HM HM2
  clear hq
  go_enter Try.func29, Try.ntmps29
  go_wp2_with fail
  refine (HN s hs _).mono ?_
  rintro e w' ⟨rfl, rfl⟩
  generalize nxt s = t0 at *
  by_cases hqb : ((q + 1 : Nat) : Int) > (b : Int)
  · have hbq : (b : Int) < (q : Int) + 1 := by omega
    have hmm : b = mm := (HM.out hqb).symm
    subst hmm
    clear hqb
    go_wp2_with (at_make; refine wpList_make_full _ rfl _ _ _ rfl w.heap.size _ i0 _ 1 Try.underlying31 hi0 hz0 hz1 _ _ _ _ b rfl rfl rfl rfl ?b2 ?b3 ?b4 ?_)
    case b2 => rw [hz2]; omega
    case b3 => unfold maxLen; omega
    case b4 => exact Nat.le_refl _
    intro w1 hown1 hg1
    have hb1' : Below w.heap.size w w1 := below_of_grown hg1 (Nat.le_refl _) (by simp)
    rw [toList_madeCells_one] at hown1
    clear hg1
    have hO : OwnBools 4 w1 w.heap.size w1.heap.size (.slice (some ⟨w.heap.size, 0, none⟩) b b) (mkB b fun _ => false) := by
      refine OwnBools.of_made ?_
      rw [mkB_false, bls_rep, List.length_replicate]; exact hown1
    clear hown1
    go_wp2_with fail
    go_loopw [5, 8, 9] (fun num gt usd wr => ∃ (n s' got : Nat) (F : Nat → Bool), n ≤ 200 ∧ s' < 65537 ∧ got ≤ b ∧ num = .int .i64 s' ∧ gt = .int .i64 (got : Int) ∧ usd = .int .i64 n ∧ Hid (chAt s b n = (s', F, got)) ∧ OwnBools 4 wr w.heap.size wr.heap.size (.slice (some ⟨w.heap.size, 0, none⟩) b b) (mkB b F) ∧ Below w.heap.size w wr)
      (fun _ _ usd _ => 200 - (intOf usd).toNat)
    case atStart => exact ⟨0, t0, 0, _, Nat.zero_le _, hn0, Nat.zero_le _, rfl, rfl, rfl, HC0, hO, hb1'⟩
    case round =>
      obtain ⟨n, s', got, F, hn, hs', hg, rfl, rfl, rfl, HC, hO, hb⟩ := hrel
      clear hb1' hn0
      have hdone : Hid (n = 200 ∨ ¬ got < b → inF s b = F) := fun h => HE.out n s' got F HC.out hn h
      by_cases hlt : n < 200 ∧ got < b
      · obtain ⟨hlt, hgt⟩ := hlt
        have hd1 : decide ((n : Int) < 200) = true := by simp; omega
        have hd2 : decide ((got : Int) < (b : Int)) = true := by simp; omega
        have HN2 := Lib.hid (HN s' (by omega) wr)
        have hnl := nxt_lt s'
        have HSK2 := Lib.hid (fun h => HSK.out n s' got F HC.out hgt h)
        have HTK2 := Lib.hid (fun h => HTK.out n s' got F HC.out hgt h)
        generalize nxt s' = t at *
        have hrk := rem_nat t b
        have hkb := Nat.mod_lt t (show 0 < b by omega)
        generalize t % b = k at *
        have hcs := hO.cellAt (k := k) (by simpa using hkb)
        have hfr := hO.frozenAt k
        have hgk : (mkB b F).getD k false = F k := by simp [mkB, List.getD, hkb]
        rw [hgk] at hcs
        have hki : (k : Int) < (b : Int) := by omega
        have hb0 : ¬ (b : Int) = 0 := by omega
        have HO := Lib.hid hO
        clear hO hgk
        cases hF : F k
        · have HF := Lib.hid (HTK2.out hF)
          rw [hF] at hcs
          have hst := HO.out.store (q := k) (x := true) (by simp) (mkB_set b k F)
          have hb2 : Below w.heap.size w (wr.setCell ⟨w.heap.size, k, none⟩ (.bool true)) := hb.setCell (Nat.le_refl _) _
          have HST := Lib.hid hst
          have HB2 := Lib.hid hb2
          clear hst hb2 HSK2 HTK2 hF
          go_wp2_with fail
          refine HN2.out.mono ?_
          rintro e w' ⟨rfl, rfl⟩
          go_wp2_with fail
          go_roundw
          case rel => exact ⟨n + 1, t, got + 1, setB F k, by omega, by omega, by omega, rfl, by go_num, by go_num, HF, by
            have h := HST.out
            exact ⟨h.1, Nat.le_refl _, fun g e => by have := h.2.2 g e; simpa using this⟩, HB2.out⟩
          case measure => simp [intOf]; omega
        · have HF := Lib.hid (HSK2.out hF)
          rw [hF] at hcs
          clear HSK2 HTK2 hF
          go_wp2_with fail
          refine HN2.out.mono ?_
          rintro e w' ⟨rfl, rfl⟩
          go_wp2_with fail
          go_roundw
          case rel => exact ⟨n + 1, t, got, F, by omega, by omega, by omega, rfl, rfl, by go_num, HF, HO.out, hb⟩
          case measure => simp [intOf]; omega
      · have HF : Hid (inF s b = F) := hdone.out (by omega)
        have hdd : (decide ((n : Int) < 200) = false) ∨ (decide ((n : Int) < 200) = true ∧ decide ((got : Int) < (b : Int)) = false ∧ ¬ got < b) := by
          by_cases h : n < 200
          · exact .inr ⟨by simp; omega, by simp; omega, by omega⟩
          · exact .inl (by simp; omega)
        clear hdone HN HE HSK HTK HM HM2 HC0 HC
        obtain ⟨g, cap, hvv, hO2⟩ : ∃ g cap, (Value.slice (some ⟨w.heap.size, 0, none⟩) b b) = .slice (some ⟨g, 0, none⟩) b cap ∧ True := ⟨_, _, rfl, trivial⟩
        clear hvv hO2 g cap
        have HO := Lib.hid hO
        have hwlt : w.heap.size < wr.heap.size := hO.2.2 _ rfl
        clear hO
        rcases hdd with hd1 | ⟨hd1, hd2, hd3⟩
        all_goals
          go_wp2_with fail
          generalize wr = wo at *
          go_loopw [11, 51] (fun o i wr => ∃ k : Nat, k ≤ b ∧ i = .int .i64 k ∧ wr.ownsRow wo.heap.size 3 1 o (blkK F k).length (ints (intL (blkK F k))) ∧ TurnIn 0 0 wo wr)
            (fun _ i _ => b - (intOf i).toNat)
          case atStart => exact ⟨0, Nat.zero_le _, rfl, World.ownsRow_nil _ _ _ _, TurnIn.refl _⟩
          case round =>
            obtain ⟨k, hk, rfl, ho, kr⟩ := hrel
            have zr := kr.size
            by_cases hltk : k < b
            · have hki : (k : Int) < (b : Int) := by omega
              have hcs := (HO.out.keep kr (by omega)).cellAt (k := k) (by simpa using hltk)
              have hgk : (mkB b F).getD k false = F k := by simp [mkB, List.getD, hltk]
              rw [hgk] at hcs
              obtain ⟨t, ht⟩ : ∃ t, t = (blkK F k).length := ⟨_, rfl⟩
              have htk : t ≤ 12 := by have := blkK_len F k; omega
              have HTL : Hid ((blkK F k).length = t) := ht.symm
              rw [← ht] at ho
              have HOO := Lib.hid ho
              clear ho ht hgk
              cases hF : F k
              · rw [hF] at hcs
                have hon : wr.ownsRow wo.heap.size 3 1 u11 (blkK F (k + 1)).length (ints (intL (blkK F (k + 1)))) := by rw [blkK_no hF, HTL.out]; exact HOO.out
                clear hF
                go_wp2_with fail
                go_roundw
                case rel => exact ⟨k + 1, by omega, by go_num, hon, kr⟩
                case measure => simp [intOf]; omega
              · rw [hF] at hcs
                have HPL := Lib.hid (blkK_yes hF)
                have HO2 := Lib.hid (HOO.out.alloc (.cells #[.int .i64 (k : Int)] 3))
                have KA := Lib.hid (turn_trans kr (turn_alloc wr (.cells #[.int .i64 (k : Int)] 3)) (by omega))
                clear hF HOO
                go_wp2_with (at_builtin; refine wpList_append1 rfl _ _ _ rfl wo.heap.size 3 _ _ Try.underlying22 infoInt rfl _ t _ rfl HO2.out wr.heap.size (.int .i64 (k : Int)) rfl ?c1 rfl ?c2 ?c3 ?c4 ?_)
                case c1 => simp
                case c2 => omega
                case c3 => omega
                case c4 => simp; omega
                intro v' w3 hown3 hg3 _
                have k3 : TurnIn 0 0 wo w3 := turn_trans' KA.out hg3 (fun g e => (HO2.out.lt g e).1)
                have hon : w3.ownsRow wo.heap.size 3 1 v' (blkK F (k + 1)).length (ints (intL (blkK F (k + 1)))) := by
                  rw [HPL.out, intL_append, ints_append, List.length_append, HTL.out]; exact hown3
                clear hown3 hg3 KA HO2
                go_wp2_with fail
                go_roundw
                case rel => exact ⟨k + 1, by omega, by go_num, hon, k3⟩
                case measure => simp [intOf]; omega
            · obtain rfl : k = b := by omega
              have hki : ¬ (k : Int) < (k : Int) := by omega
              have hox : OwnInts 3 wr w.heap.size wr.heap.size u11 (intL (blkK F k)) := ⟨own_base (by rw [intL_length]; exact ho) (by have := hb.size; omega), Nat.le_refl _, fun g e => (ho.lt g e).2⟩
              have HOX := Lib.hid hox
              clear ho hox
              go_wp2_with fail
              go_ret
              exact ⟨u11, rfl, by rw [HF.out]; exact HOX.out, turn_trans (TurnIn.of_below hb) kr (by omega)⟩
  · have hbq : ¬ (b : Int) < (q : Int) + 1 := by omega
    obtain ⟨m, hm⟩ : ∃ m, m = q + 1 := ⟨_, rfl⟩
    have HMQ : Hid ((q : Int) + 1 = (m : Int)) := by show _ = _; omega
    have hmm : m = mm := by rw [hm]; exact (HM2.out (by omega)).symm
    have HDC : Hid (decide ((b : Int) < (m : Int)) = false) := by show _ = _; simp; omega
    have hbq2 : ¬ (b : Int) < (m : Int) := by omega
    have hbq3 : ¬ b < m := by omega
    subst hmm
    clear hqb hm hbq2 hbq3
    go_wp2_with (at_make; refine wpList_make_full _ rfl _ _ _ rfl w.heap.size _ i0 _ 1 Try.underlying31 hi0 hz0 hz1 _ _ _ _ b rfl rfl rfl rfl ?b2 ?b3 ?b4 ?_)
    case b2 => rw [hz2]; omega
    case b3 => unfold maxLen; omega
    case b4 => exact Nat.le_refl _
    intro w1 hown1 hg1
    have hb1' : Below w.heap.size w w1 := below_of_grown hg1 (Nat.le_refl _) (by simp)
    rw [toList_madeCells_one] at hown1
    clear hg1
    have hO : OwnBools 4 w1 w.heap.size w1.heap.size (.slice (some ⟨w.heap.size, 0, none⟩) b b) (mkB b fun _ => false) := by
      refine OwnBools.of_made ?_
      rw [mkB_false, bls_rep, List.length_replicate]; exact hown1
    clear hown1
    go_wp2_with fail
    simp only [HMQ.out, HDC.out]
    go_loopw [5, 8, 9] (fun num gt usd wr => ∃ (n s' got : Nat) (F : Nat → Bool), n ≤ 200 ∧ s' < 65537 ∧ got ≤ m ∧ num = .int .i64 s' ∧ gt = .int .i64 (got : Int) ∧ usd = .int .i64 n ∧ Hid (chAt s b n = (s', F, got)) ∧ OwnBools 4 wr w.heap.size wr.heap.size (.slice (some ⟨w.heap.size, 0, none⟩) b b) (mkB b F) ∧ Below w.heap.size w wr)
      (fun _ _ usd _ => 200 - (intOf usd).toNat)
    case atStart => exact ⟨0, t0, 0, _, Nat.zero_le _, hn0, Nat.zero_le _, rfl, rfl, rfl, HC0, hO, hb1'⟩
    case round =>
      obtain ⟨n, s', got, F, hn, hs', hg, rfl, rfl, rfl, HC, hO, hb⟩ := hrel
      clear hb1' hn0
      have hdone : Hid (n = 200 ∨ ¬ got < m → inF s b = F) := fun h => HE.out n s' got F HC.out hn h
      by_cases hlt : n < 200 ∧ got < m
      · obtain ⟨hlt, hgt⟩ := hlt
        have hd1 : decide ((n : Int) < 200) = true := by simp; omega
        have hd2 : decide ((got : Int) < (m : Int)) = true := by simp; omega
        have HN2 := Lib.hid (HN s' (by omega) wr)
        have hnl := nxt_lt s'
        have HSK2 := Lib.hid (fun h => HSK.out n s' got F HC.out hgt h)
        have HTK2 := Lib.hid (fun h => HTK.out n s' got F HC.out hgt h)
        generalize nxt s' = t at *
        have hrk := rem_nat t b
        have hkb := Nat.mod_lt t (show 0 < b by omega)
        generalize t % b = k at *
        have hcs := hO.cellAt (k := k) (by simpa using hkb)
        have hfr := hO.frozenAt k
        have hgk : (mkB b F).getD k false = F k := by simp [mkB, List.getD, hkb]
        rw [hgk] at hcs
        have hki : (k : Int) < (b : Int) := by omega
        have hb0 : ¬ (b : Int) = 0 := by omega
        have HO := Lib.hid hO
        clear hO hgk
        cases hF : F k
        · have HF := Lib.hid (HTK2.out hF)
          rw [hF] at hcs
          have hst := HO.out.store (q := k) (x := true) (by simp) (mkB_set b k F)
          have hb2 : Below w.heap.size w (wr.setCell ⟨w.heap.size, k, none⟩ (.bool true)) := hb.setCell (Nat.le_refl _) _
          have HST := Lib.hid hst
          have HB2 := Lib.hid hb2
          clear hst hb2 HSK2 HTK2 hF
          go_wp2_with fail
          refine HN2.out.mono ?_
          rintro e w' ⟨rfl, rfl⟩
          go_wp2_with fail
          go_roundw
          case rel => exact ⟨n + 1, t, got + 1, setB F k, by omega, by omega, by omega, rfl, by go_num, by go_num, HF, by
            have h := HST.out
            exact ⟨h.1, Nat.le_refl _, fun g e => by have := h.2.2 g e; simpa using this⟩, HB2.out⟩
          case measure => simp [intOf]; omega
        · have HF := Lib.hid (HSK2.out hF)
          rw [hF] at hcs
          clear HSK2 HTK2 hF
          go_wp2_with fail
          refine HN2.out.mono ?_
          rintro e w' ⟨rfl, rfl⟩
          go_wp2_with fail
          go_roundw
          case rel => exact ⟨n + 1, t, got, F, by omega, by omega, by omega, rfl, rfl, by go_num, HF, HO.out, hb⟩
          case measure => simp [intOf]; omega
      · have HF : Hid (inF s b = F) := hdone.out (by omega)
        have hdd : (decide ((n : Int) < 200) = false) ∨ (decide ((n : Int) < 200) = true ∧ decide ((got : Int) < (m : Int)) = false ∧ ¬ got < m) := by
          by_cases h : n < 200
          · exact .inr ⟨by simp; omega, by simp; omega, by omega⟩
          · exact .inl (by simp; omega)
        clear hdone HN HE HSK HTK HM HM2 HC0 HC
        obtain ⟨g, cap, hvv, hO2⟩ : ∃ g cap, (Value.slice (some ⟨w.heap.size, 0, none⟩) b b) = .slice (some ⟨g, 0, none⟩) b cap ∧ True := ⟨_, _, rfl, trivial⟩
        clear hvv hO2 g cap
        have HO := Lib.hid hO
        have hwlt : w.heap.size < wr.heap.size := hO.2.2 _ rfl
        clear hO
        rcases hdd with hd1 | ⟨hd1, hd2, hd3⟩
        all_goals
          go_wp2_with fail
          generalize wr = wo at *
          go_loopw [11, 51] (fun o i wr => ∃ k : Nat, k ≤ b ∧ i = .int .i64 k ∧ wr.ownsRow wo.heap.size 3 1 o (blkK F k).length (ints (intL (blkK F k))) ∧ TurnIn 0 0 wo wr)
            (fun _ i _ => b - (intOf i).toNat)
          case atStart => exact ⟨0, Nat.zero_le _, rfl, World.ownsRow_nil _ _ _ _, TurnIn.refl _⟩
          case round =>
            obtain ⟨k, hk, rfl, ho, kr⟩ := hrel
            have zr := kr.size
            by_cases hltk : k < b
            · have hki : (k : Int) < (b : Int) := by omega
              have hcs := (HO.out.keep kr (by omega)).cellAt (k := k) (by simpa using hltk)
              have hgk : (mkB b F).getD k false = F k := by simp [mkB, List.getD, hltk]
              rw [hgk] at hcs
              obtain ⟨t, ht⟩ : ∃ t, t = (blkK F k).length := ⟨_, rfl⟩
              have htk : t ≤ 12 := by have := blkK_len F k; omega
              have HTL : Hid ((blkK F k).length = t) := ht.symm
              rw [← ht] at ho
              have HOO := Lib.hid ho
              clear ho ht hgk
              cases hF : F k
              · rw [hF] at hcs
                have hon : wr.ownsRow wo.heap.size 3 1 u11 (blkK F (k + 1)).length (ints (intL (blkK F (k + 1)))) := by rw [blkK_no hF, HTL.out]; exact HOO.out
                clear hF
                go_wp2_with fail
                go_roundw
                case rel => exact ⟨k + 1, by omega, by go_num, hon, kr⟩
                case measure => simp [intOf]; omega
              · rw [hF] at hcs
                have HPL := Lib.hid (blkK_yes hF)
                have HO2 := Lib.hid (HOO.out.alloc (.cells #[.int .i64 (k : Int)] 3))
                have KA := Lib.hid (turn_trans kr (turn_alloc wr (.cells #[.int .i64 (k : Int)] 3)) (by omega))
                clear hF HOO
                go_wp2_with (at_builtin; refine wpList_append1 rfl _ _ _ rfl wo.heap.size 3 _ _ Try.underlying22 infoInt rfl _ t _ rfl HO2.out wr.heap.size (.int .i64 (k : Int)) rfl ?c1 rfl ?c2 ?c3 ?c4 ?_)
                case c1 => simp
                case c2 => omega
                case c3 => omega
                case c4 => simp; omega
                intro v' w3 hown3 hg3 _
                have k3 : TurnIn 0 0 wo w3 := turn_trans' KA.out hg3 (fun g e => (HO2.out.lt g e).1)
                have hon : w3.ownsRow wo.heap.size 3 1 v' (blkK F (k + 1)).length (ints (intL (blkK F (k + 1)))) := by
                  rw [HPL.out, intL_append, ints_append, List.length_append, HTL.out]; exact hown3
                clear hown3 hg3 KA HO2
                go_wp2_with fail
                go_roundw
                case rel => exact ⟨k + 1, by omega, by go_num, hon, k3⟩
                case measure => simp [intOf]; omega
            · obtain rfl : k = b := by omega
              have hki : ¬ (k : Int) < (k : Int) := by omega
              have hox : OwnInts 3 wr w.heap.size wr.heap.size u11 (intL (blkK F k)) := ⟨own_base (by rw [intL_length]; exact ho) (by have := hb.size; omega), Nat.le_refl _, fun g e => (ho.lt g e).2⟩
              have HOX := Lib.hid hox
              clear ho hox
              go_wp2_with fail
              go_ret
              exact ⟨u11, rfl, by rw [HF.out]; exact HOX.out, turn_trans (TurnIn.of_below hb) kr (by omega)⟩

set_option maxRecDepth 100000 in
set_option maxHeartbeats 2000000 in
theorem sBlocksOf_own (s b : Int) (w : World) : Calls Try.prog 7 #[.int .i64 s, .int .i64 b] w (RetIntsOk 3 w (blkR s b) (blkOk s b)) := by
  by_cases h1 : seedOk s = true
  · have hs := seedOk_b h1
    have H1 := Lib.hid h1
    by_cases h2 : bcOk b = true
    · have hb := bcOk_b h2
      have H2 : Hid (inB b 1 12 = true) := Lib.hid h2
      have HOK : Hid (blkOk s b = true) := by show blkOk s b = true; simp [blkOk, h1, h2]
      have HR : Hid (blkR s b = intL (blkN s.toNat b.toNat)) := if_pos HOK.out
      obtain ⟨s, rfl⟩ := Int.eq_ofNat_of_zero_le hs.1
      obtain ⟨b, rfl⟩ := Int.eq_ofNat_of_zero_le (show 0 ≤ b by omega)
      simp only [Int.toNat_natCast] at HR
      have HD := Lib.hid (l9Blocks_own s b w (by omega) (by omega) (by omega))
      clear h1 h2
      go_enter Try.func7, Try.ntmps7
      go_wp2_with fail
      refine (l9Seed_any _ _).mono ?_
      rintro e w' ⟨rfl, rfl⟩
      rw [H1.out]
      go_wp2_with fail
      refine (l1In_any _ _ _ _).mono ?_
      rintro e w' ⟨rfl, rfl⟩
      rw [H2.out]
      go_wp2_with fail
      refine HD.out.mono ?_
      rintro e w1 ⟨v1, rfl, o1, k1⟩
      go_wp2_with fail
      go_ret2
      exact ⟨_, by rw [HOK.out]; rfl, by rw [HR.out]; exact o1, k1⟩
    · have H2 : Hid (inB b 1 12 = false) := by show bcOk b = false; simpa using h2
      have HOK : Hid (blkOk s b = false) := by show blkOk s b = false; simp [blkOk, show bcOk b = false from H2.out]
      have HR : Hid (blkR s b = []) := if_neg (by rw [HOK.out]; decide)
      clear h1 h2
      go_enter Try.func7, Try.ntmps7
      go_wp2_with fail
      refine (l9Seed_any _ _).mono ?_
      rintro e w' ⟨rfl, rfl⟩
      rw [H1.out]
      go_wp2_with fail
      refine (l1In_any _ _ _ _).mono ?_
      rintro e w' ⟨rfl, rfl⟩
      rw [H2.out]
      go_wp2_with fail
      go_ret2
      exact ⟨_, by rw [HOK.out]; rfl, by rw [HR.out]; exact OwnInts.nil _ _ _, TurnIn.refl _⟩
  · have H1 : Hid (seedOk s = false) := by show seedOk s = false; simpa using h1
    have HOK : Hid (blkOk s b = false) := by show blkOk s b = false; simp [blkOk, H1.out]
    have HR : Hid (blkR s b = []) := if_neg (by rw [HOK.out]; decide)
    clear h1
    go_enter Try.func7, Try.ntmps7
    go_wp2_with fail
    refine (l9Seed_any _ _).mono ?_
    rintro e w' ⟨rfl, rfl⟩
    rw [H1.out]
    go_wp2_with fail
    go_ret2
    exact ⟨_, by rw [HOK.out]; rfl, by rw [HR.out]; exact OwnInts.nil _ _ _, TurnIn.refl _⟩

end Go.Proofs.Ytjklngheehhggaa
