/- Arrays of 20 bytes: the program's through (Newton). -/
import Derived.Test.YtgbhcjfnkjhkiaaDoorArr2
import Derived.Test.YtgbhcjfnkjhkiaaDoorShrMem
import Derived.Deep.RegionHeld3
set_option linter.unusedSimpArgs false
set_option linter.unusedVariables false
namespace G294
theorem nwK_succ (l : List Sr) (k : Nat) : nwK l (k + 1) = (addC (gmul (yF l k ^^^ hor (xF l k) (nwK l k).1) (ginv (hor (xF l k) (nwK l k).2))) (nwK l k).1 (nwK l k).2, wrC (xF l k) (nwK l k).2) := rfl
end G294
namespace Go.Proofs.YtgbhcjfnkjhkiaaDoor
open Go.RowKit G294

theorem inverse_u8 (a : UInt8) (w : World) (ht : Tab w) :
    Calls Tryd.prog 147 #[.int .u8 (a.toNat : Int)] w fun e w' => e = .returned (.int .u8 ((ginv a).toNat : Int)) ∧ w = w' := by
  rw [ginv_toNat]; exact inverse_any _ a.toNat_lt w ht

set_option maxRecDepth 100000 in
set_option maxHeartbeats 4000000 in
theorem through_own (v : Value) (l : List Sr) (w : World) (hv : SeenR w v l) (hl : l.length ≤ 20) (ht : Tab w) (h0 : 0 < w.heap.size) :
    Calls Tryd.prog 117 #[v] w fun e w' => e = .returned (aggL (thr l)) ∧ TurnIn 0 0 w w' := by
  obtain ⟨A, c, rfl, hlc, hcm, hx⟩ := hv
  unfold maxLen at hcm
  have HT := Lib.hid ht
  have HTH : Hid (thr l = (nwK l l.length).1) := rfl
  have HX := Lib.hid hx
  generalize hnn : l.length = n at *
  have HN := Lib.hid hnn
  clear ht hnn hx
  have HLEN := Lib.hid (nw_len l)
  go_enter Tryd.func117, Tryd.ntmps117
  go_wp2_with (refine wpList_alloc_arr rfl 136 rfl _ zeroCoef ?_)
  intro W1 hW1
  replace hW1 := hW1.out
  have t1 := hW1 ▸ turn_alloc w (.cells (bys (List.replicate 20 0)).toArray 136)
  have r1 := hW1 ▸ ArrAt.new w 136 (List.replicate 20 0)
  have z1 := hW1 ▸ World.size_alloc w (.cells (bys (List.replicate 20 0)).toArray 136)
  clear hW1
  generalize hB : w.heap.size = B at *
  have HBE := Lib.hid hB
  clear hB
  go_wp2_with (refine wpList_alloc_arr rfl 136 rfl _ zeroCoef ?_)
  intro W2 hW2
  replace hW2 := hW2.out
  have t2 := hW2 ▸ turn_alloc W1 (.cells (bys (List.replicate 20 0)).toArray 136)
  have r2 := hW2 ▸ ArrAt.new W1 136 (List.replicate 20 0)
  have z2 := hW2 ▸ World.size_alloc W1 (.cells (bys (List.replicate 20 0)).toArray 136)
  rw [z1] at r2 z2
  replace r1 := r1.keep t2 (by omega)
  replace t1 := turn_trans t1 t2 (by omega)
  clear hW2 t2 z1
  go_wp2_with (refine wpList_alloc_arr rfl 136 rfl _ zeroCoef ?_)
  intro W3 hW3
  replace hW3 := hW3.out
  have t3 := hW3 ▸ turn_alloc W2 (.cells (bys (List.replicate 20 0)).toArray 136)
  have r3 := hW3 ▸ ArrAt.new W2 136 (List.replicate 20 0)
  have z3 := hW3 ▸ World.size_alloc W2 (.cells (bys (List.replicate 20 0)).toArray 136)
  rw [z2] at r3 z3
  replace r1 := r1.keep t3 (by omega)
  replace r2 := r2.keep t3 (by omega)
  replace t1 := turn_trans t1 t3 (by omega)
  clear hW3 t3 z2
  go_wp2_with (refine wpList_store_arr rfl 136 _ _ rfl (B + 1 + 1) 20 _ _ (1 :: List.replicate 19 0) rfl rfl r3 sizeCoef (by simp) (by simp) ?_)
  intro W4 hW4
  replace hW4 := hW4.out
  have r4 := hW4 ▸ r3.row (1 :: List.replicate 19 0)
  have t4 := hW4 ▸ turn_row W3 (B + 1 + 1) (bys (1 :: List.replicate 19 0)).toArray
  have z4 : W4.heap.size = B + 1 + 1 + 1 := by rw [hW4]; simp [z3]
  replace r1 := r1.keep t4 (by omega)
  replace r2 := r2.keep t4 (by omega)
  replace t1 := turn_trans t1 t4 (by have := HBE.out; omega)
  clear hW4 t4 r3 z3
  have q2 : ArrAt W4 (B + 1) 136 (nwK l 0).1 := r2
  have q3 : ArrAt W4 (B + 1 + 1) 136 (nwK l 0).2 := r4
  clear r2 r4
  go_wp2_with fail
  go_loopw [14] (fun i wr => ∃ k : Nat, k ≤ n ∧ i = .int .i64 k ∧ ArrAt wr (B + 1) 136 (nwK l k).1 ∧ ArrAt wr (B + 1 + 1) 136 (nwK l k).2 ∧ ArrAt wr B 136 (List.replicate 20 0) ∧ TurnIn 0 0 w wr ∧ B + 1 + 1 + 1 ≤ wr.heap.size)
    (fun i _ => n - (intOf i).toNat)
  case atStart => exact ⟨0, by omega, rfl, q2, q3, r1, t1, by omega⟩
  case round =>
    obtain ⟨k, hk, rfl, p2, p3, p1, s1, z5⟩ := hrel
    clear q2 q3 r1 t1 z4
    obtain ⟨hP, hV⟩ := HLEN.out k
    have HNS := Lib.hid (nwK_succ l k)
    by_cases hlt : k < n
    · generalize (nwK l k).1 = P at *
      generalize (nwK l k).2 = V at *
      obtain ⟨b, off, rfl, hbl, hcell⟩ := HX.out (by omega)
      obtain ⟨⟨x, y⟩, hks⟩ := at_ltR HN.out hlt
      obtain ⟨e1, e2⟩ := at_xy hks
      rw [← e1, ← e2] at HNS
      simp only at HNS
      have hb := s1.to_below
      have hc1 := (hb.cell (p := ⟨b, off + k * 2, none⟩) (by rw [HBE.out]; exact hbl)).trans (hcell k _ hks).1
      have hc2 := (hb.cell (p := ⟨b, off + k * 2 + 1, none⟩) (by rw [HBE.out]; exact hbl)).trans (hcell k _ hks).2
      simp only at hc1 hc2
      have hki : (k : Int) < (n : Int) := by omega
      have ta := turn_alloc wr (.cells #[.int .u8 (x.toNat : Int), .int .u8 (y.toNat : Int)] 59)
      have hp0 : (wr.alloc (.cells #[.int .u8 (x.toNat : Int), .int .u8 (y.toNat : Int)] 59)).cell? ⟨wr.heap.size, 0, none⟩ = some (.int .u8 (x.toNat : Int)) := by simp
      have hp1 : (wr.alloc (.cells #[.int .u8 (x.toNat : Int), .int .u8 (y.toNat : Int)] 59)).cell? ⟨wr.heap.size, 1, none⟩ = some (.int .u8 (y.toNat : Int)) := by simp
      have za := World.size_alloc wr (.cells #[.int .u8 (x.toNat : Int), .int .u8 (y.toNat : Int)] 59)
      replace p1 := p1.keep ta (by omega)
      replace p2 := p2.keep ta (by omega)
      replace p3 := p3.keep ta (by omega)
      replace s1 := turn_trans s1 ta (by omega)
      clear e1 e2 hcell hks hb ta
      go_wp2_with fail
      generalize wr.alloc (.cells #[.int .u8 (x.toNat : Int), .int .u8 (y.toNat : Int)] 59) = Wa at *
      generalize hBp : wr.heap.size = Bp at *
      clear hBp hc1 hc2
      have HS1 := Lib.hid ((p2.seen hP (by omega)).touch (drew_turnA Wa))
      have HTA : Hid (∀ W, TurnIn 0 0 w W → Tab W ∧ 0 < W.heap.size) := fun W hW => ⟨HT.out.below hW.to_below (by rw [HBE.out]; exact h0), by have := hW.size; have := HBE.out; omega⟩
      have HTD := Lib.hid (HTA.out Wa.drew (turn_drewA s1))
      go_region_held3 (fun w' => w'.cell? ⟨Bp, 0, none⟩ = some (.int .u8 (x.toNat : Int)) ∧ w'.cell? ⟨Bp, 1, none⟩ = some (.int .u8 (y.toNat : Int)))
        (first | exact ⟨hp0, hp1⟩ | exact ⟨cell_turn ht hp0 (by simp; omega), cell_turn ht hp1 (by simp; omega)⟩)
        ((go_at_call 114; refine (valueAt_own _ P x _ HS1.out (by omega) HTD.out.1 HTD.out.2).mono ?_; rintro e w' ⟨rfl, ht⟩))
      all_goals
        replace ht := undrewA ht
        have s2 := turn_trans s1 ht (by omega)
        have hs2 := ht.size
        have p1a := p1.keep ht (by omega)
        have p2a := p2.keep ht (by omega)
        have p3a := p3.keep ht (by omega)
        have hq0 := cell_turn ht hp0 (by omega)
        have HS2 := Lib.hid ((p3a.seen hV (by omega)).touch (drew_turnA w'))
        have HTD2 := Lib.hid (HTA.out w'.drew (turn_drewA s2))
        clear p1 p2 p3 s1 hp0 hp1 HS1 HTD
        rw [xor_u8 y (hor x P)]
        go_wp2_with fail
        go_region_held3 (fun W => W.cell? ⟨Bp, 0, none⟩ = some (.int .u8 (x.toNat : Int)))
          (first | exact hq0 | exact cell_turn ht2 hq0 (by simp; omega))
          (first | (go_at_call 114; refine (valueAt_own _ V x _ HS2.out (by omega) HTD2.out.1 HTD2.out.2).mono ?_; rintro e w2 ⟨rfl, ht2⟩; have HTE := Lib.hid (HTA.out w2 (turn_trans s2 (undrewA ht2) (by omega)))) | (go_at_call 147; refine (inverse_u8 (hor x V) _ HTE.out.1).mono ?_; rintro e w3 ⟨rfl, rfl⟩) | (go_at_call 146; refine (times_u8 (y ^^^ hor x P) (ginv (hor x V)) _ HTE.out.1).mono ?_; rintro e w3 ⟨rfl, rfl⟩))
        all_goals
          replace ht2 := undrewA ht2
          have s3 := turn_trans s2 ht2 (by omega)
          have hs3 := ht2.size
          have p1b := p1a.keep ht2 (by omega)
          have p2b := p2a.keep ht2 (by omega)
          have p3b := p3a.keep ht2 (by omega)
          have hq1 := cell_turn ht2 hq0 (by omega)
          generalize gmul (y ^^^ hor x P) (ginv (hor x V)) = f at *
          clear p1a p2a p3a s2 hq0 HS2 HTD2 ht ht2 HTE
          go_wp2_with (refine wpList_load_arr rfl 136 _ rfl (B + 1 + 1) 20 20 5 _ _ rfl p3b sizeCoef Tryd.underlying136 hV ?_)
          intro u hu
          replace hu := hu.out
          subst hu
          have p2c : ArrAt w2 (B + 1) 136 (mixK f P V 0) := by rw [mixK_zero]; exact p2b
          have hPV : P.length = V.length := by omega
          clear p2b
          go_wp2_with fail
          go_loopw [33] (fun j wr => ∃ m : Nat, m ≤ 20 ∧ j = .int .i64 m ∧ ArrAt wr (B + 1) 136 (mixK f P V m) ∧ ArrAt wr (B + 1 + 1) 136 V ∧ ArrAt wr B 136 (List.replicate 20 0) ∧ TurnIn 0 0 w wr ∧ wr.cell? ⟨Bp, 0, none⟩ = some (.int .u8 (x.toNat : Int)) ∧ Bp + 1 ≤ wr.heap.size)
            (fun j _ => 20 - (intOf j).toNat)
          case atStart => exact ⟨0, by omega, rfl, p2c, p3b, p1b, s3, hq1, by omega⟩
          case round =>
            obtain ⟨m, hm20, rfl, q2, q3, q1, s4, hq2, z6⟩ := hrel
            clear p2c p3b p1b s3 hq1 hs3 hs2
            by_cases hlt2 : m < 20
            · have hmi : (m : Int) < 20 := by omega
              have hmV : m < V.length := by omega
              have hmP : m < P.length := by omega
              have hcx := q2.cellAt (mixK_get f P V hPV m hmP)
              have hfr := q2.frozen m
              have htab := (HTA.out _ s4).1
              obtain ⟨c0, hc0⟩ : ∃ c0, c0 = V[m] := ⟨_, rfl⟩
              obtain ⟨m0, hm0⟩ : ∃ m0, m0 = P[m] := ⟨_, rfl⟩
              rw [← hm0] at hcx
              have HC := Lib.hid (stillA (times_u8 f c0 wr.drew (show Tab wr.drew from htab)))
              have hxor := xor_u8 m0 (gmul f c0)
              have hst := q2.set m (m0 ^^^ gmul f c0)
              rw [hm0, hc0, mixK_set f P V hPV m hmP hmV] at hst
              rw [← hm0, ← hc0] at hst
              have tst := turn_set wr (B + 1) m (.int .u8 ((m0 ^^^ gmul f c0).toNat : Int))
              have HST := Lib.hid hst
              have HQ1 := Lib.hid (q1.keep tst (by omega))
              have HQ3 := Lib.hid (q3.keep tst (by omega))
              have HS4 : Hid (TurnIn 0 0 w _) := turn_trans s4 tst (by have := HBE.out; omega)
              have HQ2 := Lib.hid (cell_keepA hq2 (by omega) tst (by omega))
              have HCC : Hid (c0 = V[m]) := hc0
              clear hst tst hm0 hc0 htab
              go_wp2_with (refine wpList_index_arr rfl 136 _ _ rfl V m 20 5 rfl rfl Tryd.underlying136 Tryd.underlying5 sizeByteA hV hmV ?_)
              intro u hu
              replace hu := hu.out
              rw [← HCC.out] at hu
              subst hu
              go_wp2_with fail
              refine wp_region_still_tail 8 (by kernel_rfl) (by kernel_rfl) ?_
              simp only [List.take_succ_cons, List.take_zero, List.drop_succ_cons, List.drop_zero]
              repeat (first | still_step | still_call (HC.out))
              refine wpStill_nil ?_
              go_wp2_with fail
              go_roundw
              case rel => exact ⟨m + 1, by omega, by go_num, HST.out, HQ3.out, HQ1.out, turn_drewA HS4.out, HQ2.out, by simp; omega⟩
              case measure => simp [intOf]; omega
            · obtain rfl : m = 20 := by omega
              have hmi : ¬ ((20 : Nat) : Int) < 20 := by omega
              have hend : mixK f P V 20 = addC f P V := mixK_end f P V hPV 20 (by omega)
              rw [hend] at q2
              clear hend
              go_wp2_with (refine wpList_load_arr rfl 136 _ rfl (B + 1 + 1) 20 20 5 _ _ rfl q3 sizeCoef Tryd.underlying136 hV ?_)
              intro u hu
              replace hu := hu.out
              subst hu
              go_wp2_with fail
              refine (withRoot_own V x _ hV (HTA.out _ s4).1 (HTA.out _ s4).2).mono ?_
              rintro e w5 ⟨rfl, ht5⟩
              have s5 := turn_trans s4 ht5 (by omega)
              have z7 := ht5.size
              replace q1 := q1.keep ht5 (by omega)
              replace q2 := q2.keep ht5 (by omega)
              replace q3 := q3.keep ht5 (by omega)
              have hWL : (wrC x V).length = 20 := by
                unfold wrC
                rw [addL_lenS _ _ (by rw [scaleL_lenS]; simp [hV])]; simp [hV]
              clear s4 ht5 hq2
              go_wp2_with (refine wpList_store_arr rfl 136 _ _ rfl (B + 1 + 1) 20 _ _ (wrC x V) rfl rfl q3 sizeCoef hV hWL ?_)
              intro W6 hW6
              replace hW6 := hW6.out
              have r6 := hW6 ▸ q3.row (wrC x V)
              have t6 := hW6 ▸ turn_row w5 (B + 1 + 1) (bys (wrC x V)).toArray
              have z8 : B + 1 + 1 + 1 ≤ W6.heap.size := by have := t6.size; omega
              replace q1 := q1.keep t6 (by omega)
              replace q2 := q2.keep t6 (by omega)
              replace s5 := turn_trans s5 t6 (by have := HBE.out; omega)
              clear hW6 q3 t6
              go_wp2_with fail
              go_roundw
              case rel => exact ⟨k + 1, by omega, by go_num, by rw [HNS.out]; exact q2, by rw [HNS.out]; exact r6, q1, s5, z8⟩
              case measure => simp [intOf]; omega
    · obtain rfl : k = n := by omega
      have hki : ¬ (k : Int) < (k : Int) := by omega
      have hTe := HTH.out
      rw [← hTe] at p2 hP
      clear hTe
      go_wp2_with (refine wpList_load_arr rfl 136 _ rfl (B + 1) 20 20 5 _ _ rfl p2 sizeCoef Tryd.underlying136 hP ?_)
      intro u hu
      replace hu := hu.out
      subst hu
      go_wp2_with (refine wpList_store_arr rfl 136 _ _ rfl B 20 _ _ (thr l) rfl rfl p1 sizeCoef (by simp) hP ?_)
      intro W5 hW5
      replace hW5 := hW5.out
      have r5 := hW5 ▸ p1.row (thr l)
      have t5 := hW5 ▸ turn_row wr B (bys (thr l)).toArray
      have hb6 : TurnIn 0 0 w W5 := turn_trans s1 t5 (by have := HBE.out; omega)
      clear hW5
      go_wp2_with fail
      exact bodyPost_ret (ret_arr rfl _ B 20 20 _ 5 _ rfl r5 Tryd.underlying136 sizeCoef hP) rfl ⟨rfl, hb6⟩

end Go.Proofs.YtgbhcjfnkjhkiaaDoor
