/- Matrices as arguments of a law: copies and sizes. -/
import Derived.Test.YtldmefelnpgohaaMatLaws
import Derived.Test.YtldmefelnpgohaaAllocs
set_option linter.unusedSimpArgs false
set_option linter.unusedVariables false
namespace Go.Proofs.Ytldmefelnpgohaa
open Go.RowKit G294

set_option maxRecDepth 100000 in
set_option maxHeartbeats 1000000 in
theorem toByteSS_own (v : Value) (L : Mat) (w : World) (hv : SeenM w v L) (hn : L.length + sizM L ≤ 1048576) : Calls Try.prog 41 #[v] w (RetM 5 44 w L) := by
  obtain ⟨i0, hi0, hz0, hz1, hz2⟩ := info_parts infoRowB
  obtain ⟨A, c, rfl, hlc, hcm⟩ := hv.len
  unfold maxLen at hcm
  have HV := Lib.hid hv
  have hrl : ∀ i, i < L.length → (L.getD i []).length ≤ 1048576 := fun i hi => by
    have e1 := sizM_take_succ L i hi
    have e2 := sizM_take_le L (i + 1)
    omega
  have HRL := Lib.hid hrl
  clear hv hrl
  generalize hnn : L.length = n at *
  have HN := Lib.hid hnn
  clear hnn
  go_enter Try.func41, Try.ntmps41
  go_wp2_with (at_make; refine wpList_make_full _ rfl _ _ _ rfl w.heap.size _ i0 _ 1 Try.underlying22 hi0 hz0 hz1 _ _ _ _ n rfl rfl rfl rfl ?b2 ?b3 ?b4 ?_)
  case b2 => rw [hz2]; omega
  case b3 => unfold maxLen; omega
  case b4 => exact Nat.le_refl _
  intro w1 hown1 hg1
  rw [toList_madeCells_one] at hown1
  have hb1 : Below w.heap.size w w1 := below_of_grown hg1 (Nat.le_refl _) (by simp)
  have HM1 := Lib.hid ((own_blank (E := 5) (c := 0) (F := fun _ _ => 0) hown1).congr (L' := L.take 0 ++ List.replicate (n - 0) []) rfl)
  clear hg1 hown1
  go_wp2_with fail
  go_loopw [4] (fun i wr => ∃ (k : Nat) (vs : List Value), k ≤ n ∧ i = .int .i64 k ∧ Hid (OwnM 5 44 wr w.heap.size wr.heap.size (.slice (some ⟨w.heap.size, 0, none⟩) n n) (L.take k ++ List.replicate (n - k) []) vs) ∧ Below w.heap.size w wr)
    (fun i _ => n - (intOf i).toNat)
  case atStart => exact ⟨0, _, Nat.zero_le _, rfl, HM1, hb1⟩
  case round =>
    obtain ⟨k, vs, hk, rfl, HM, hb⟩ := hrel
    clear hb1
    by_cases hlt : k < n
    · have hki : (k : Int) < (n : Int) := by omega
      have hkl : k < L.length := by rw [HN.out]; exact hlt
      obtain ⟨bb, off, c2, r1, hvv, _, _, hbl, hc1, hs1⟩ := (HV.out.below hb).row k hkl
      rw [HN.out] at hvv
      simp only [Value.slice.injEq] at hvv
      obtain ⟨rfl, z1, rfl⟩ := hvv
      clear z1
      have HS1 := Lib.hid hs1
      have hbs := hb.size
      clear hs1
      go_wp2_with fail
      refine (toByteS_own r1 (L.getD k []) _ HS1.out (HRL.out k (by rw [← HN.out] at hlt; rw [← HN.out]; exact hlt))).mono ?_
      rintro e w2 ⟨v2, rfl, ho2, ht⟩
      have hM2 := HM.out.keep ht (by omega)
      have hll : (L.take k ++ List.replicate (n - k) ([] : List UInt8)).length = n := by rw [List.length_append, List.length_take, List.length_replicate, HN.out]; omega
      obtain ⟨u0, hu0, _⟩ := hM2.at k (by rw [hll]; exact hlt)
      have hco := hM2.cellAt hu0
      have hfr := hM2.frozenAt k
      have hs2 := ht.size
      have hb2 : Below w.heap.size w w2 := ht.base hb hbs (by omega)
      obtain ⟨A2, n2, c3, rfl⟩ := own_isSlice ho2.1
      have hM3 := (hM2.put (k := k) hll.symm (by rw [hll]; exact hlt) ho2 (Nat.le_refl _) hbs hs2).congr (set_copy L k n hkl HN.out.symm)
      have HM3 := Lib.hid hM3
      have hb3 : Below w.heap.size w (w2.setCell ⟨w.heap.size, k, none⟩ (.slice A2 n2 c3)) := hb2.setCell (Nat.le_refl _) _
      clear hM3 hM2 ho2 ht hll hb2 hu0
      go_wp2_with fail
      go_roundw
      case rel => exact ⟨k + 1, _, by omega, by go_num, Lib.hid (HM3.out.wider (Nat.le_refl _) (by simp) (Nat.le_refl _)), hb3⟩
      case measure => simp [intOf]; omega
    · obtain rfl : k = n := by omega
      have hki : ¬ (k : Int) < (k : Int) := by omega
      go_wp2_with fail
      go_ret
      refine ⟨_, vs, rfl, HM.out.congr ?_, TurnIn.of_below hb⟩
      rw [Nat.sub_self, List.take_of_length_le (by rw [HN.out]; exact Nat.le_refl _)]
      simp

set_option maxHeartbeats 1000000 in
theorem toMatrix_own (v : Value) (L : Mat) (w : World) (hv : SeenM w v L) (hn : L.length + sizM L ≤ 1048576) : Calls Try.prog 13 #[.agg #[v]] w (RetMat 5 44 w L) := by
  have hb0 : Below w.heap.size w (w.alloc (.cells #[v] 24)) := (Below.refl _ _).alloc (Nat.le_refl _) _
  have hb1 : Below w.heap.size w ((w.alloc (.cells #[v] 24)).alloc (.cells #[.slice none 0 0] 27)) := hb0.alloc (by simp) _
  have hb2 : Below w.heap.size w (((w.alloc (.cells #[v] 24)).alloc (.cells #[.slice none 0 0] 27)).alloc (.cells #[.slice none 0 0] 27)) := hb1.alloc (by simp; omega) _
  have HV := Lib.hid (hv.below hb2)
  have HB := Lib.hid hb2
  obtain ⟨A, c, rfl, _, _⟩ := hv.len
  have hsz : (((w.alloc (.cells #[.slice A L.length c] 24)).alloc (.cells #[.slice none 0 0] 27)).alloc (.cells #[.slice none 0 0] 27)).heap.size = w.heap.size + 3 := by simp
  have HSZ := Lib.hid hsz
  clear hv hb0 hb1 hb2 hsz
  go_enter Try.func13, Try.ntmps13
  go_wp2_with fail
  refine (toByteSS_own _ L _ HV.out hn).mono ?_
  rintro e w4 ⟨v', vs', rfl, hM, ht⟩
  obtain ⟨A', n', c', rfl⟩ := hM.isSlice
  have hq1 := cell_turn ht (alloc_mid_cell _ _ _ _ _) (by rw [HSZ.out]; omega)
  have hq1f := frozen_turn ht (alloc_mid_frozen _ _ _ _ _) (by rw [HSZ.out]; omega)
  have hq2 := cell_turn ht (alloc_last_cell _ _ _ _ _) (by rw [HSZ.out]; omega)
  have hq2f := frozen_turn ht (alloc_last_frozen _ _ _ _ _) (by rw [HSZ.out]; omega)
  have hs4 := ht.size
  rw [HSZ.out] at hs4 hM
  have hM2 := (hM.keep (turn_setCell w4 (w.heap.size + 2) 0 (.slice A' n' c')) (by omega)).keep (turn_setCell _ (w.heap.size + 1) 0 (.slice A' n' c')) (by omega)
  have HM2 := Lib.hid (hM2.wider (show w.heap.size ≤ w.heap.size + 3 by omega) (Nat.le_refl _) (by simp))
  have hb4 := ht.base HB.out (by rw [HSZ.out]; omega) (by omega)
  have hb5 : Below w.heap.size w (w4.setCell ⟨w.heap.size + 2, 0, none⟩ (.slice A' n' c')) := hb4.setCell (show w.heap.size ≤ w.heap.size + 2 by omega) _
  have hb6 : Below w.heap.size w ((w4.setCell ⟨w.heap.size + 2, 0, none⟩ (.slice A' n' c')).setCell ⟨w.heap.size + 1, 0, none⟩ (.slice A' n' c')) := hb5.setCell (show w.heap.size ≤ w.heap.size + 1 by omega) _
  have HB4 := Lib.hid hb6
  clear hb4 hb5 hb6
  have hq3 := World.cell?_setCell_same w4 ⟨w.heap.size + 2, 0, none⟩ (.slice A' n' c') hq2
  have hq4 := (cell_set_other w4 (B := w.heap.size + 2) (B' := w.heap.size + 1) 0 0 (.slice A' n' c') (by omega)).trans hq1
  have hq4f := (frozen_set_other w4 (B := w.heap.size + 2) (B' := w.heap.size + 1) 0 0 (.slice A' n' c') (by omega)).trans hq1f
  clear hM hM2 ht
  go_wp2_with fail
  refine bodyPost_ret (v := .agg #[.slice A' n' c']) (by simp [results, Try.results13, go_sem, hq4]) rfl ?_
  exact ⟨_, vs', rfl, by simpa using HM2.out, TurnIn.of_below HB4.out⟩

set_option maxHeartbeats 1000000 in
theorem szByteS_yes (v : Value) (l : List UInt8) (left : Nat) (w : World) (hv : Seen w v (bys l)) (h : l.length ≤ left) (hl : left ≤ 1048576) :
    Calls Try.prog 68 #[v, .int .i64 left] w fun e w' => e = .returned (.int .i64 ((left - l.length : Nat) : Int)) ∧ w = w' := by
  obtain ⟨A, c, rfl, hlc, hcm, _⟩ := hv
  simp only [bys_length] at hlc ⊢
  generalize l.length = n at *
  obtain ⟨d, rfl⟩ : ∃ d, left = n + d := ⟨left - n, by omega⟩
  go_enter Try.func68, Try.ntmps68
  go_wp2_with fail
  go_ret
  exact ⟨ret_int (by omega), rfl⟩

set_option maxHeartbeats 1000000 in
theorem szByteS_no (v : Value) (l : List UInt8) (left : Nat) (w : World) (hv : Seen w v (bys l)) (h : left < l.length) (hl : left ≤ 1048576) :
    Calls Try.prog 68 #[v, .int .i64 left] w fun e w' => e = .returned (.int .i64 (-1)) ∧ w = w' := by
  obtain ⟨A, c, rfl, hlc, hcm, _⟩ := hv
  simp only [bys_length] at hlc ⊢
  unfold maxLen at hcm
  generalize l.length = n at *
  go_enter Try.func68, Try.ntmps68
  go_wp2_with fail
  go_ret
  exact ⟨rfl, rfl⟩

set_option maxRecDepth 100000 in
set_option maxHeartbeats 2000000 in
theorem szByteSS_any (v : Value) (L : Mat) (left : Nat) (w : World) (hv : SeenM w v L) (hl : left ≤ 1048576) :
    Calls Try.prog 39 #[v, .int .i64 left] w fun e w' => e = .returned (.int .i64 (szR left (L.length + sizM L))) ∧ w = w' := by
  obtain ⟨A, c, rfl, hlc, hcm⟩ := hv.len
  unfold maxLen at hcm
  have HV := Lib.hid hv
  clear hv
  generalize hnn : L.length = n at *
  have HN := Lib.hid hnn
  clear hnn
  by_cases h0 : n ≤ left
  · go_enter Try.func39, Try.ntmps39
    go_wp2_with fail
    go_loop [1, 5] (fun q i => ∃ k m : Nat, k ≤ n ∧ i = .int .i64 k ∧ q = .int .i64 m ∧ m ≤ left ∧ Hid (m + sizM (L.take k) + n = left)) (fun _ i => n - (intOf i).toNat)
    case atStart => exact ⟨0, left - n, Nat.zero_le _, rfl, by go_num, by omega, by show left - n + sizM (L.take 0) + n = left; simp [sizM]; omega⟩
    case round =>
      obtain ⟨k, m, hk, rfl, rfl, hmd, HM⟩ := hrel
      by_cases hlt : k < n
      · have hki : (k : Int) < (n : Int) := by omega
        have hkl : k < L.length := by rw [HN.out]; exact hlt
        obtain ⟨bb, off, c2, r1, hvv, _, _, hbl, hc1, hs1⟩ := HV.out.row k hkl
        rw [HN.out] at hvv
        simp only [Value.slice.injEq] at hvv
        obtain ⟨rfl, z1, rfl⟩ := hvv
        clear z1
        have HS1 := Lib.hid hs1
        have HT := Lib.hid (sizM_take_succ L k hkl)
        have HTL := Lib.hid (sizM_take_le L (k + 1))
        clear hs1
        by_cases hle : (L.getD k []).length ≤ m
        · go_wp2_with fail
          refine (szByteS_yes r1 (L.getD k []) m _ HS1.out hle (by omega)).mono ?_
          rintro e w' ⟨rfl, rfl⟩
          have HM2 : Hid (m - (L.getD k []).length + sizM (L.take (k + 1)) + n = left) := by
            show _ = left
            have := HT.out; have := HM.out; omega
          generalize (L.getD k []).length = nk at *
          have hneg : ¬ ((m - nk : Nat) : Int) < 0 := by omega
          go_wp2_with fail
          go_round
          case rel => exact ⟨k + 1, m - nk, by omega, by go_num, rfl, by omega, HM2⟩
          case measure => simp [intOf]; omega
        · have HF : Hid (szR left (n + sizM L) = -1) := by
            show szR _ _ = -1
            unfold szR
            rw [if_neg (by have := HT.out; have := HTL.out; have := HM.out; omega)]
          go_wp2_with fail
          refine (szByteS_no r1 (L.getD k []) m _ HS1.out (by omega) (by omega)).mono ?_
          rintro e w' ⟨rfl, rfl⟩
          go_wp2_with fail
          go_ret
          exact ⟨by rw [HF.out]; rfl, rfl⟩
      · obtain rfl : k = n := by omega
        have hki : ¬ (k : Int) < (k : Int) := by omega
        have HF : Hid (szR left (k + sizM L) = (m : Int)) := by
          show szR _ _ = _
          have e := HM.out
          rw [List.take_of_length_le (by rw [HN.out]; exact Nat.le_refl _)] at e
          unfold szR
          rw [if_pos (by omega)]; omega
        go_wp2_with fail
        go_ret
        exact ⟨by rw [HF.out]; rfl, rfl⟩
  · have HF : Hid (szR left (n + sizM L) = -1) := by
      show szR _ _ = -1
      unfold szR
      rw [if_neg (by omega)]
    go_enter Try.func39, Try.ntmps39
    go_wp2_with fail
    go_ret
    exact ⟨by rw [HF.out]; rfl, rfl⟩

set_option maxHeartbeats 1000000 in
theorem szMatrix_yes (v : Value) (L : Mat) (left : Nat) (w : World) (hv : SeenM w v L) (h : L.length + sizM L ≤ left) (hl : left ≤ 1048576) :
    Calls Try.prog 11 #[.agg #[v], .int .i64 left] w (RetInt w ((left - (L.length + sizM L) : Nat) : Int)) := by
  have hb1 : Below w.heap.size w (w.alloc (.cells #[v] 24)) := (Below.refl _ _).alloc (Nat.le_refl _) _
  have HB := Lib.hid hb1
  have HV := Lib.hid (hv.below hb1)
  obtain ⟨A, c, rfl, _, _⟩ := hv.len
  have HF : Hid (szR left (L.length + sizM L) = ((left - (L.length + sizM L) : Nat) : Int)) := by
    show szR _ _ = _
    unfold szR
    rw [if_pos h]; omega
  clear hv hb1
  go_enter Try.func11, Try.ntmps11
  go_wp2_with fail
  refine (szByteSS_any _ L left _ HV.out hl).mono ?_
  rintro e w' ⟨rfl, rfl⟩
  rw [HF.out]
  generalize left - (L.length + sizM L) = z at *
  have hneg : ¬ (z : Int) < 0 := by omega
  go_wp2_with fail
  go_ret
  exact ⟨rfl, TurnIn.of_below HB.out⟩

set_option maxHeartbeats 1000000 in
theorem szMatrix_no (v : Value) (L : Mat) (left : Nat) (w : World) (hv : SeenM w v L) (h : left < L.length + sizM L ∧ left ≤ 1048576) :
    Calls Try.prog 11 #[.agg #[v], .int .i64 left] w (RetInt w (-1)) := by
  have hb1 : Below w.heap.size w (w.alloc (.cells #[v] 24)) := (Below.refl _ _).alloc (Nat.le_refl _) _
  have HB := Lib.hid hb1
  have HV := Lib.hid (hv.below hb1)
  obtain ⟨A, c, rfl, _, _⟩ := hv.len
  have HF : Hid (szR left (L.length + sizM L) = -1) := by
    show szR _ _ = _
    unfold szR
    rw [if_neg (by omega)]
  clear hv hb1
  go_enter Try.func11, Try.ntmps11
  go_wp2_with fail
  refine (szByteSS_any _ L left _ HV.out h.2).mono ?_
  rintro e w' ⟨rfl, rfl⟩
  rw [HF.out]
  go_wp2_with fail
  go_ret
  exact ⟨rfl, TurnIn.of_below HB.out⟩

end Go.Proofs.Ytldmefelnpgohaa
