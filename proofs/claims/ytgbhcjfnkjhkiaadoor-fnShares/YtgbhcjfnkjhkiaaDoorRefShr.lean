/- RefreshShares: the program's and the model's. -/
import Derived.Test.YtgbhcjfnkjhkiaaDoorArr1
import Derived.Test.YtgbhcjfnkjhkiaaDoorGoodShr
import Derived.Test.YtgbhcjfnkjhkiaaDoorShrWalks
import Derived.Test.YtgbhcjfnkjhkiaaDoorShrApp
import Derived.Deep.RegionLaw
import Derived.Deep.RegionHeld3
set_option linter.unusedSimpArgs false
set_option linter.unusedVariables false
namespace G294
open Go Go.RowKit
theorem refOk_no {l : List Sr} {r : List UInt8} (h : shrOk l = false) : refOk l r = false := by simp [refOk, h]
theorem refOk_big {l : List Sr} {r : List UInt8} (h : ¬ r.length ≤ 8) : refOk l r = false := by simp [refOk, h]
theorem refOk_yes {l : List Sr} {r : List UInt8} (h : shrOk l = true) (h2 : r.length ≤ 8) : refOk l r = true := by simp [refOk, h, h2]
theorem refR_yes {l : List Sr} {r : List UInt8} (h : refOk l r = true) : refR l r = refL l r := if_pos h
theorem refR_no {l : List Sr} {r : List UInt8} (h : refOk l r = false) : refR l r = [] := if_neg (by rw [h]; simp)
theorem refL_set (l : List Sr) (r : List UInt8) (k : Nat) (x y : UInt8) (h : k < l.length) (hx : x = xF l k) (hy : y = yF l k ^^^ hor (xF l k) (0 :: r)) :
    ((refL l r).take k ++ List.replicate (l.length - k) ((0 : UInt8), (0 : UInt8))).set k (x, y) = (refL l r).take (k + 1) ++ List.replicate (l.length - (k + 1)) ((0 : UInt8), (0 : UInt8)) := by
  rw [take_set_next (refL l r) _ k (x, y) (by rw [refL_get l r k h, hx, hy]) (by simp; omega)]
  simp [Nat.sub_sub]
end G294
namespace Go.Proofs.YtgbhcjfnkjhkiaaDoor
open Go.RowKit G294

set_option maxRecDepth 100000 in
set_option maxHeartbeats 2000000 in
theorem refreshShares_own (v u : Value) (l : List Sr) (r : List UInt8) (w : World) (hv : SeenR w v l) (hu : Seen w u (bys r)) (ht : Tab w) (h0 : 0 < w.heap.size) :
    Calls Tryd.prog 57 #[v, u] w (RetSrsOk 59 w (refR l r) (refOk l r)) := by
  have HV := Lib.hid hv
  have HU := Lib.hid hu
  have HT := Lib.hid ht
  obtain ⟨A, c, rfl, hlc, hcm, hx⟩ := hv
  obtain ⟨A', c', rfl, hlc', hcm', _⟩ := hu
  simp only [bys_length] at *
  unfold maxLen at hcm hcm'
  have HX := Lib.hid hx
  clear ht hx
  by_cases hs : shrOk l = true
  · have HS := Lib.hid hs
    have h20 := shr_20 hs
    clear hs
    by_cases hr : r.length ≤ 8
    · have HD : Hid (decide (r.length ≤ 8) = true) := by show _ = _; simpa using hr
      have HO := Lib.hid (refOk_yes HS.out hr)
      have HR := Lib.hid (refR_yes HO.out)
      have hPL : (pad20 (0 :: r)).length = 20 := pad20_length (by simp; omega)
      have HPH : Hid (∀ x, hor x (pad20 (0 :: r)) = hor x (0 :: r)) := fun x => hor_pad20 x _
      have HSET := Lib.hid (refL_set l r)
      have HRL := Lib.hid (refL_length l r)
      obtain ⟨i0, hi0, hz0, hz1, hz2⟩ := info_parts infoShare
      generalize hnn : l.length = n at *
      have HN := Lib.hid hnn
      clear hnn
      go_enter Tryd.func57, Tryd.ntmps57
      go_wp2_with fail
      refine (goodShares_own _ l _ HV.out).mono ?_
      rintro e w1 ⟨rfl, k1⟩
      rw [HS.out]
      have z1 := k1.size
      go_wp2_with fail
      refine (goodRandom_any _ r _ (HU.out.touch k1)).mono ?_
      rintro e w' ⟨rfl, rfl⟩
      rw [HD.out]
      go_wp2_with fail
      refine (hidden_own 0 _ r _ (HU.out.touch k1) (by omega)).mono ?_
      rintro e w2 ⟨rfl, k2'⟩
      have k2 := turn_trans k1 k2' (by omega)
      have z2 := k2'.size
      clear k2' k1
      go_wp2_with (refine wpList_alloc_arr rfl 136 rfl _ zeroCoef ?_)
      intro W2 hW2
      replace hW2 := hW2.out
      have t2 := hW2 ▸ turn_alloc w2 (.cells (bys (List.replicate 20 0)).toArray 136)
      have r2 := hW2 ▸ ArrAt.new w2 136 (List.replicate 20 0)
      have za := hW2 ▸ World.size_alloc w2 (.cells (bys (List.replicate 20 0)).toArray 136)
      replace k2 := turn_trans k2 t2 (by omega)
      clear hW2 t2
      generalize hB : w2.heap.size = B at *
      clear hB
      go_wp2_with (refine wpList_store_arr rfl 136 _ _ rfl B 20 _ _ (pad20 (0 :: r)) rfl rfl r2 sizeCoef (by simp) hPL ?_)
      intro W3 hW3
      replace hW3 := hW3.out
      have r3 := hW3 ▸ r2.row (pad20 (0 :: r))
      have t3 := hW3 ▸ turn_row W2 B (bys (pad20 (0 :: r))).toArray
      replace k2 := turn_trans k2 t3 (by omega)
      have zb : W3.heap.size = B + 1 := by rw [hW3]; simp [za]
      clear hW3 t3 r2 za
      go_wp2_with (at_make; refine wpList_make_full _ rfl _ _ _ rfl (B + 1) _ i0 _ 2 Tryd.underlying53 hi0 hz0 hz1 _ _ _ _ n rfl rfl rfl rfl ?b2 ?b3 ?b4 ?_)
      case b2 => rw [hz2]; omega
      case b3 => unfold maxLen; omega
      case b4 => omega
      intro w4 hown hg4
      rw [toList_madeCells_srs] at hown
      have t4 := TurnIn.of_below (below_of_grown hg4 (Nat.le_refl _) (by simp))
      replace r3 := r3.keep t4 (by omega)
      replace k2 := turn_trans k2 t4 (by omega)
      have hsz4 : B + 2 ≤ w4.heap.size := by have := (hown.lt (B + 1) rfl).2; omega
      clear t4 hg4 zb
      go_wp2_with fail
      go_loopw [25] (fun i wr => ∃ k : Nat, k ≤ n ∧ i = .int .i64 k ∧ wr.ownsRow (B + 1) 59 2 (.slice (some ⟨B + 1, 0, none⟩) n n) n (srs ((refL l r).take k ++ List.replicate (n - k) ((0 : UInt8), (0 : UInt8)))) ∧ ArrAt wr B 136 (pad20 (0 :: r)) ∧ TurnIn 0 0 w wr ∧ B + 2 ≤ wr.heap.size)
        (fun i _ => n - (intOf i).toNat)
      case atStart => exact ⟨0, Nat.zero_le _, rfl, by simpa using hown, r3, k2, hsz4⟩
      case round =>
        obtain ⟨k, hk, rfl, ho, r5, k5, z5⟩ := hrel
        clear hown r3 k2 hsz4
        by_cases hlt : k < n
        · have hki : (k : Int) < (n : Int) := by omega
          obtain ⟨b, off, rfl, hbl, hcell⟩ := HX.out (by omega)
          obtain ⟨⟨x, y⟩, hks⟩ := at_ltR HN.out hlt
          have HXY := Lib.hid (at_xy hks)
          have hb5 := k5.to_below
          have hc1 := (hb5.cell (p := ⟨b, off + k * 2, none⟩) hbl).trans (hcell k _ hks).1
          have hc2 := (hb5.cell (p := ⟨b, off + k * 2 + 1, none⟩) hbl).trans (hcell k _ hks).2
          simp only at hc1 hc2
          have ta := turn_alloc wr (.cells #[.int .u8 (x.toNat : Int), .int .u8 (y.toNat : Int)] 59)
          have hp0 : (wr.alloc (.cells #[.int .u8 (x.toNat : Int), .int .u8 (y.toNat : Int)] 59)).cell? ⟨wr.heap.size, 0, none⟩ = some (.int .u8 (x.toNat : Int)) := by simp
          have hp1 : (wr.alloc (.cells #[.int .u8 (x.toNat : Int), .int .u8 (y.toNat : Int)] 59)).cell? ⟨wr.heap.size, 1, none⟩ = some (.int .u8 (y.toNat : Int)) := by simp
          have zq := World.size_alloc wr (.cells #[.int .u8 (x.toNat : Int), .int .u8 (y.toNat : Int)] 59)
          have ho2 := owns_turn0 ho ta
          have r6 := r5.keep ta (by omega)
          have k6 := turn_trans k5 ta (by omega)
          have HSE : Hid (((refL l r).take k ++ List.replicate (n - k) ((0 : UInt8), (0 : UInt8))).set k (x, y ^^^ hor x (0 :: r)) = (refL l r).take (k + 1) ++ List.replicate (n - (k + 1)) ((0 : UInt8), (0 : UInt8))) := HSET.out k x _ hlt HXY.out.1 (by rw [← HXY.out.1, ← HXY.out.2])
          clear hcell hks hb5 ta ho r5 k5
          go_wp2_with fail
          generalize wr.alloc (.cells #[.int .u8 (x.toNat : Int), .int .u8 (y.toNat : Int)] 59) = Wa at *
          generalize hBp : wr.heap.size = Bp at *
          have HZP : Hid (B + 2 ≤ Bp) := z5
          clear hBp hc1 hc2
          have z6 := k6.size
          have HS1 := Lib.hid ((r6.seen hPL (by omega)).touch (drew_turnA Wa))
          have HTD : Hid (Tab Wa.drew ∧ 0 < Wa.drew.heap.size) := ⟨HT.out.below (turn_drewA k6).to_below h0, by simp; omega⟩
          have HOW := Lib.hid ho2
          go_region_held3 (fun w' => w'.cell? ⟨Bp, 0, none⟩ = some (.int .u8 (x.toNat : Int)) ∧ w'.cell? ⟨Bp, 1, none⟩ = some (.int .u8 (y.toNat : Int)))
            (first | exact ⟨hp0, hp1⟩ | exact ⟨cell_turn ht hp0 (by simp; omega), cell_turn ht hp1 (by simp; omega)⟩ | exact ⟨cell_set2 (cell_turn ht hp0 (by simp; omega)) (by omega), cell_set2 (cell_turn ht hp1 (by simp; omega)) (by omega)⟩)
            ((go_at_call 114; refine (valueAt_own _ (pad20 (0 :: r)) x _ HS1.out (by omega) HTD.out.1 HTD.out.2).mono ?_; rintro e w' ⟨rfl, ht⟩; rw [HPH.out x]; obtain ⟨⟨o1, o2, hd1, hd2⟩, hf1, hf2, hst⟩ := row_pair (owns_turn0 HOW.out (undrewA ht)) hlt x (y ^^^ hor x (0 :: r)); have HST := Lib.hid hst; clear hst; have hxx := xor_u8 y (hor x (0 :: r))))
          all_goals
            replace ht := undrewA ht
            have r7 := r6.keep ht (by omega)
            have k7 := turn_trans k6 ht (by omega)
            have z7 := ht.size
            have tA := turn_set w' (B + 1) (k * 2) (.int .u8 (x.toNat : Int))
            have tB := turn_set (w'.setCell ⟨B + 1, k * 2, none⟩ (.int .u8 (x.toNat : Int))) (B + 1) (k * 2 + 1) (.int .u8 ((y ^^^ hor x (0 :: r)).toNat : Int))
            have HR7 := Lib.hid ((r7.keep tA (by omega)).keep tB (by omega))
            have HK7 : Hid (TurnIn 0 0 w _) := turn_trans (turn_trans k7 tA (by omega)) tB (by omega)
            have hst := HST.out
            rw [HSE.out] at hst
            have HST2 := Lib.hid hst
            clear hst tA tB r7 k7 HST HOW ho2 r6 k6 HS1 HTD hp0 hp1
            go_wp2_with fail
            go_roundw
            case rel => exact ⟨k + 1, by omega, by go_num, HST2.out, HR7.out, HK7.out, by simp; omega⟩
            case measure => simp [intOf]; omega
        · obtain rfl : k = n := by omega
          have hki : ¬ (k : Int) < (k : Int) := by omega
          go_wp2_with fail
          go_ret2
          refine ⟨_, by rw [HO.out]; rfl, ?_, k5⟩
          rw [HR.out]
          rw [List.take_of_length_le (by rw [HRL.out]; exact Nat.le_refl _), Nat.sub_self] at ho
          have h3 : wr.ownsRow w.heap.size 59 2 (.slice (some ⟨B + 1, 0, none⟩) k k) (refL l r).length (srs (refL l r)) := by
            rw [HRL.out]
            exact own_base (by simpa using ho) (by omega)
          exact OwnSr.of_made (w := w) h3
    · have HD : Hid (decide (r.length ≤ 8) = false) := by show _ = _; simpa using hr
      have HO := Lib.hid (refOk_big (l := l) hr)
      have HR := Lib.hid (refR_no HO.out)
      generalize hnn : l.length = n at *
      clear hnn
      go_enter Tryd.func57, Tryd.ntmps57
      go_wp2_with fail
      refine (goodShares_own _ l _ HV.out).mono ?_
      rintro e w1 ⟨rfl, k1⟩
      rw [HS.out]
      go_wp2_with fail
      refine (goodRandom_any _ r _ (HU.out.touch k1)).mono ?_
      rintro e w' ⟨rfl, rfl⟩
      rw [HD.out]
      go_wp2_with fail
      go_ret2
      exact ⟨_, by rw [HO.out]; rfl, by rw [HR.out]; exact ⟨World.ownsRow_nil _ _ _ _, Nat.le_refl _, fun g e => by simp [Value.ownBlock] at e⟩, k1⟩
  · have HS : Hid (shrOk l = false) := by show _ = _; simpa using hs
    have HO := Lib.hid (refOk_no (r := r) HS.out)
    have HR := Lib.hid (refR_no HO.out)
    clear hs
    generalize hnn : l.length = n at *
    clear hnn
    go_enter Tryd.func57, Tryd.ntmps57
    go_wp2_with fail
    refine (goodShares_own _ l _ HV.out).mono ?_
    rintro e w1 ⟨rfl, k1⟩
    rw [HS.out]
    go_wp2_with fail
    go_ret2
    exact ⟨_, by rw [HO.out]; rfl, by rw [HR.out]; exact ⟨World.ownsRow_nil _ _ _ _, Nat.le_refl _, fun g e => by simp [Value.ownBlock] at e⟩, k1⟩

set_option maxRecDepth 100000 in
set_option maxHeartbeats 4000000 in
theorem sRefreshShares_own (v u : Value) (l : List Sr) (r : List UInt8) (w : World) (hv : SeenR w v l) (hu : Seen w u (bys r)) :
    Calls Tryd.prog 58 #[v, u] w (RetSrsOk 59 w (refR l r) (refOk l r)) := by
  have HV := Lib.hid hv
  have HU := Lib.hid hu
  obtain ⟨A, c, rfl, hlc, hcm, hx⟩ := hv
  obtain ⟨A', c', rfl, hlc', hcm', _⟩ := hu
  simp only [bys_length] at *
  unfold maxLen at hcm hcm'
  have HX := Lib.hid hx
  clear hx
  by_cases hs : shrOk l = true
  · have HS := Lib.hid hs
    have h20 := shr_20 hs
    clear hs
    by_cases hr : r.length ≤ 8
    · have hd : decide (8 < (r.length : Int)) = false := by simp; omega
      have HO := Lib.hid (refOk_yes HS.out hr)
      have HR := Lib.hid (refR_yes HO.out)
      have HGET0 := Lib.hid (refL_get l r)
      have HRL := Lib.hid (refL_length l r)
      generalize hnn : l.length = n at *
      have HN := Lib.hid hnn
      clear hnn
      go_enter Tryd.func58, Tryd.ntmps58
      go_wp2_with fail
      refine (l7Shares_own _ l _ HV.out).mono ?_
      rintro e w1 ⟨rfl, k1⟩
      rw [HS.out]
      have z1 := k1.size
      generalize hD : w1.heap.size = D at *
      have zD : D ≤ w1.heap.size := by omega
      clear hD
      go_wp2_with fail
      go_loopw [6, 19] (fun o i wr => ∃ (k : Nat) (v' : Value), k ≤ n ∧ i = .int .i64 k ∧ o = v' ∧ wr.ownsRow D 59 2 v' k (srs ((refL l r).take k)) ∧ TurnIn 0 0 w wr ∧ D ≤ wr.heap.size)
        (fun _ i _ => n - (intOf i).toNat)
      case atStart => exact ⟨0, _, Nat.zero_le _, rfl, rfl, World.ownsRow_nil _ _ _ _, k1, zD⟩
      case round =>
        obtain ⟨k, v', hk, rfl, hov, ho, k5, z5⟩ := hrel
        replace hov := hov.symm
        subst hov
        clear k1 zD
        by_cases hlt : k < n
        · have hki : (k : Int) < (n : Int) := by omega
          obtain ⟨b, off, rfl, hbl, hcell⟩ := HX.out (by omega)
          obtain ⟨⟨x, y⟩, hks⟩ := at_ltR HN.out hlt
          obtain ⟨e1, e2⟩ := at_xy hks
          have hb5 := k5.to_below
          have hc1 := (hb5.cell (p := ⟨b, off + k * 2, none⟩) hbl).trans (hcell k _ hks).1
          have hc2 := (hb5.cell (p := ⟨b, off + k * 2 + 1, none⟩) hbl).trans (hcell k _ hks).2
          simp only at hc1 hc2 e1 e2
          have ta := turn_alloc wr (.cells #[.int .u8 (x.toNat : Int), .int .u8 (y.toNat : Int)] 59)
          have hp0 : (wr.alloc (.cells #[.int .u8 (x.toNat : Int), .int .u8 (y.toNat : Int)] 59)).cell? ⟨wr.heap.size, 0, none⟩ = some (.int .u8 (x.toNat : Int)) := by simp
          have hp1 : (wr.alloc (.cells #[.int .u8 (x.toNat : Int), .int .u8 (y.toNat : Int)] 59)).cell? ⟨wr.heap.size, 1, none⟩ = some (.int .u8 (y.toNat : Int)) := by simp
          have zq := World.size_alloc wr (.cells #[.int .u8 (x.toNat : Int), .int .u8 (y.toNat : Int)] 59)
          have ho2 := owns_turn0 ho ta
          have k6 := turn_trans k5 ta (by omega)
          have HLT : Hid (∀ g, v'.ownBlock = some g → g < wr.heap.size) := fun g e => (ho.lt g e).2
          have HGET : Hid ((refL l r).take k ++ [(x, y ^^^ gmul x (hor x r))] = (refL l r).take (k + 1)) := by
            show _ = _
            rw [List.take_add_one, HGET0.out k hlt, ← e1, ← e2, hor_cons0, gmul_comm]; rfl
          clear hcell hks hb5 ta ho k5 e1 e2
          go_wp2_with fail
          generalize wr.alloc (.cells #[.int .u8 (x.toNat : Int), .int .u8 (y.toNat : Int)] 59) = Wa at *
          generalize hBp : wr.heap.size = Bp at *
          clear hBp hc1 hc2
          obtain ⟨q, hq⟩ : ∃ q, q = gmul x (hor x r) := ⟨_, rfl⟩
          have HQ : Hid (gmul x (hor x r) = q) := hq.symm
          rw [← hq] at HGET
          clear hq
          have HOW := Lib.hid ho2
          have HK6 := Lib.hid k6
          have HUW := Lib.hid (HU.out.touch (turn_drewA k6))
          go_region_held3 (fun w' => w'.cell? ⟨Bp, 0, none⟩ = some (.int .u8 (x.toNat : Int)) ∧ w'.cell? ⟨Bp, 1, none⟩ = some (.int .u8 (y.toNat : Int)))
            (first | exact ⟨hp0, hp1⟩ | exact ⟨cell_turn ht hp0 (by simp; omega), cell_turn ht hp1 (by simp; omega)⟩ | exact ⟨cell_turn (turn_trans ht (turn_alloc _ _) (by omega)) hp0 (by simp; omega), cell_turn (turn_trans ht (turn_alloc _ _) (by omega)) hp1 (by simp; omega)⟩ | exact ⟨hq0, hq1⟩)
            (first | (go_at_call 115; refine (l7At_own _ r x _ HUW.out).mono ?_; rintro e w' ⟨rfl, ht⟩) | (go_at_call 125; refine (l1Times_u8 x (hor x r) _).mono ?_; rintro e w3 ⟨rfl, rfl⟩; rw [HQ.out]; have hxx := xor_u8 y q) | (refine step_appendR rfl _ _ _ rfl D 59 _ _ Tryd.underlying53 infoShare rfl _ k ((refL l r).take k) rfl (owns_turn0 HOW.out (turn_trans (undrewA ht) (turn_alloc _ _) (by omega))) w'.heap.size x (y ^^^ q) rfl (by simp) (by simp) (by omega) (by omega) (by have := ht.size; simp at this ⊢; omega) ?_; intro v7 w8 ho8 hg8 _; have hq0 := hg8.cell (cell_turn (turn_trans ht (turn_alloc _ (.cells #[.int .u8 (x.toNat : Int), .int .u8 ((y ^^^ q).toNat : Int)] 59)) (by omega)) hp0 (by simp; omega)) (fun e => by have := HLT.out Bp e.symm; omega); have hq1 := hg8.cell (cell_turn (turn_trans ht (turn_alloc _ (.cells #[.int .u8 (x.toNat : Int), .int .u8 ((y ^^^ q).toNat : Int)] 59)) (by omega)) hp1 (by simp; omega)) (fun e => by have := HLT.out Bp e.symm; omega)))
          all_goals
            rw [HGET.out] at ho8
            have k8 : TurnIn 0 0 w w8 := turn_grow (turn_trans HK6.out (turn_trans (undrewA ht) (turn_alloc w' _) (by omega)) (by omega)) hg8 (fun g e => by have := (HOW.out.lt g e).1; omega)
            have z8 : D ≤ w8.heap.size := by have := hg8.size; have := ht.size; simp at *; omega
            clear hg8 hq0 hq1 ht hp0 hp1 ho2 k6
            go_wp2_with fail
            go_roundw
            case rel => exact ⟨k + 1, _, by omega, by go_num, rfl, ho8, k8, z8⟩
            case measure => simp [intOf]; omega
        · obtain rfl : k = n := by omega
          have hki : ¬ (k : Int) < (k : Int) := by omega
          go_wp2_with fail
          go_ret2
          refine ⟨_, by rw [HO.out]; rfl, ?_, k5⟩
          rw [HR.out]
          rw [List.take_of_length_le (by rw [HRL.out]; exact Nat.le_refl _)] at ho
          exact OwnSr.of_made (w := w) (by rw [HRL.out]; exact own_base ho (by omega))
    · have hd : decide (8 < (r.length : Int)) = true := by simp; omega
      have HO := Lib.hid (refOk_big (l := l) hr)
      have HR := Lib.hid (refR_no HO.out)
      generalize hnn : l.length = n at *
      clear hnn
      go_enter Tryd.func58, Tryd.ntmps58
      go_wp2_with fail
      refine (l7Shares_own _ l _ HV.out).mono ?_
      rintro e w1 ⟨rfl, k1⟩
      rw [HS.out]
      go_wp2_with fail
      go_ret2
      exact ⟨_, by rw [HO.out]; rfl, by rw [HR.out]; exact ⟨World.ownsRow_nil _ _ _ _, Nat.le_refl _, fun g e => by simp [Value.ownBlock] at e⟩, k1⟩
  · have HS : Hid (shrOk l = false) := by show _ = _; simpa using hs
    have HO := Lib.hid (refOk_no (r := r) HS.out)
    have HR := Lib.hid (refR_no HO.out)
    clear hs
    generalize hnn : l.length = n at *
    clear hnn
    go_enter Tryd.func58, Tryd.ntmps58
    go_wp2_with fail
    refine (l7Shares_own _ l _ HV.out).mono ?_
    rintro e w1 ⟨rfl, k1⟩
    rw [HS.out]
    go_wp2_with fail
    go_ret2
    exact ⟨_, by rw [HO.out]; rfl, by rw [HR.out]; exact ⟨World.ownsRow_nil _ _ _ _, Nat.le_refl _, fun g e => by simp [Value.ownBlock] at e⟩, k1⟩

end Go.Proofs.YtgbhcjfnkjhkiaaDoor
