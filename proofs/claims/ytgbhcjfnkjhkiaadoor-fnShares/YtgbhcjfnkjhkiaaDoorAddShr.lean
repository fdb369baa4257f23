/- AddShares: the program's and the model's. -/
import Derived.Test.YtgbhcjfnkjhkiaaDoorGoodShr
import Derived.Test.YtgbhcjfnkjhkiaaDoorShrWalks
import Derived.Test.YtgbhcjfnkjhkiaaDoorShrApp
import Derived.Test.YtgbhcjfnkjhkiaaDoorArrMem
import Derived.BigQuiet
import Derived.Deep.RegionHeld3
import Derived.StillTailTactics
set_option linter.unusedSimpArgs false
set_option linter.unusedVariables false
namespace G294
open Go Go.RowKit
def plK (l : List Sr) (k : Nat) : List UInt8 := (xsL l).take k ++ List.replicate (20 - k) 0
theorem xsL_len (l : List Sr) : (xsL l).length = l.length := by simp [xsL]
theorem plK_len {l : List Sr} {k : Nat} (hk : k ≤ l.length) (h : l.length ≤ 20) : (plK l k).length = 20 := by simp [plK, xsL_len]; omega
theorem plK_zero (l : List Sr) : plK l 0 = List.replicate 20 0 := by simp [plK]
theorem plK_end {l : List Sr} (h : l.length ≤ 20) : plK l l.length = pad20 (xsL l) := by
  unfold plK pad20
  rw [List.take_of_length_le (by rw [xsL_len]; exact Nat.le_refl _), xsL_len]
theorem plK_get {l : List Sr} {k : Nat} (hk : k < l.length) (h : l.length ≤ 20) : (plK l k)[k]? = some 0 := by
  unfold plK
  have ht : ((xsL l).take k).length = k := by simp [xsL_len]; omega
  rw [List.getElem?_append_right (by omega), ht, Nat.sub_self, List.getElem?_replicate, if_pos (by omega)]
theorem plK_set {l : List Sr} {k : Nat} {s : Sr} (hs : l[k]? = some s) (h : l.length ≤ 20) : (plK l k).set k s.1 = plK l (k + 1) := by
  have hk : k < l.length := (List.getElem?_eq_some_iff.1 hs).1
  unfold plK
  have ht : ((xsL l).take k).length = k := by simp [xsL_len]; omega
  rw [List.set_append, if_neg (by omega), ht, Nat.sub_self]
  obtain ⟨m, hm⟩ : ∃ m, 20 - k = m + 1 := ⟨20 - k - 1, by omega⟩
  rw [hm, List.replicate_succ, List.set_cons_zero, List.take_add_one, show (xsL l)[k]? = some s.1 by simp [xsL, hs], show 20 - (k + 1) = m by omega]
  simp
theorem adsOk_a {a b : List Sr} (h : shrOk a = false) : adsOk a b = false := by simp [adsOk, h]
theorem adsOk_b {a b : List Sr} (h : shrOk b = false) : adsOk a b = false := by simp [adsOk, h]
theorem adsOk_x {a b : List Sr} (h : sameX a b = false) : adsOk a b = false := by simp [adsOk, h]
theorem adsOk_yes {a b : List Sr} (h : shrOk a = true) (h2 : shrOk b = true) (h3 : sameX a b = true) : adsOk a b = true := by simp [adsOk, h, h2, h3]
theorem adsR_yes {a b : List Sr} (h : adsOk a b = true) : adsR a b = adsL a b := if_pos h
theorem adsR_no {a b : List Sr} (h : adsOk a b = false) : adsR a b = [] := if_neg (by rw [h]; simp)
theorem sameX_iff (a b : List Sr) : sameX a b = true ↔ a.length = b.length ∧ ∀ i, i < a.length → xF a i = xF b i := by simp only [sameX, decide_eq_true_eq]
theorem sameX_beq {a b : List Sr} (ha : shrOk a = true) (hb : shrOk b = true) : (pad20 (xsL a) == pad20 (xsL b)) = sameX a b := by
  rw [Bool.eq_iff_iff, beq_iff_eq, places_iff ha hb]
theorem adsL_set (a b : List Sr) (k : Nat) (x y : UInt8) (h : k < a.length) (hx : x = xF a k) (hy : y = yF a k ^^^ yF b k) :
    ((adsL a b).take k ++ List.replicate (a.length - k) ((0 : UInt8), (0 : UInt8))).set k (x, y) = (adsL a b).take (k + 1) ++ List.replicate (a.length - (k + 1)) ((0 : UInt8), (0 : UInt8)) := by
  rw [take_set_next (adsL a b) _ k (x, y) (by rw [adsL_get a b k h, hx, hy]) (by simp; omega)]
  simp [Nat.sub_sub]
end G294
namespace Go.Proofs.YtgbhcjfnkjhkiaaDoor
open Go.RowKit G294

theorem infoPl : (Tryd.prog.info? 145).map (fun i => (i.zero, i.size)) = some (some (aggL (List.replicate 20 0)), 20) := by kernel_rfl

theorem zeroPl : (Tryd.prog.info? 145).map (·.zero) = some (some (aggL (List.replicate 20 0))) := by
  have := infoPl
  cases h : Tryd.prog.info? 145 <;> simp_all

theorem sizePl : (Tryd.prog.info? 145).map (·.size) = some 20 := by
  have := infoPl
  cases h : Tryd.prog.info? 145 <;> simp_all

theorem sizeByteP : (Tryd.prog.info? 5).map (·.size) = some 1 := by
  have := infoByte
  cases h : Tryd.prog.info? 5 <;> simp_all

theorem eqgPl (x y : Operand) (xs ys : List UInt8) (w : World) : (eqGuard .neq 145 x y (aggL xs) (aggL ys)).run Tryd.prog w = .ok () w := run_eqGuard_agg w .neq 145 x y _ _ (by kernel_rfl)

theorem neqPl (xs ys : List UInt8) (hx : xs.length = 20) (hy : ys.length = 20) (w : World) : (binOp .neq 145 (aggL xs) (aggL ys)).run Tryd.prog w = .ok (.bool (!(xs == ys))) w := by
  unfold aggL
  rw [run_neq_struct]
  have h := run_equalIn_bytes w 9998 145 5 20 Tryd.underlying145 Tryd.underlying5 (fun w => by
    have := sizeByteP
    cases hq : Tryd.prog.info? 5 with
    | none => simp [hq] at this
    | some i => simp [hq] at this; simp [Go.sizeOf, typeInfo, hq, this]) xs ys hx hy
  exact congrArg (fun r => Result.andThen r fun b w' => Result.ok (Value.bool (!b)) w') h

set_option maxRecDepth 100000 in
set_option maxHeartbeats 2000000 in
theorem placesOf_own (v : Value) (l : List Sr) (w : World) (hv : SeenR w v l) (hl : l.length ≤ 20) :
    Calls Tryd.prog 124 #[v] w fun e w' => e = .returned (aggL (pad20 (xsL l))) ∧ TurnIn 0 0 w w' := by
  obtain ⟨A, c, rfl, hlc, hcm, hx⟩ := hv
  unfold maxLen at hcm
  have HX := Lib.hid hx
  have HPE := Lib.hid (plK_end hl)
  have HPL : Hid (∀ k, k ≤ l.length → (plK l k).length = 20) := fun k hk => plK_len hk hl
  have HPG : Hid (∀ k, k < l.length → (plK l k)[k]? = some 0) := fun k hk => plK_get hk hl
  have HPS : Hid (∀ k s, l[k]? = some s → (plK l k).set k s.1 = plK l (k + 1)) := fun k s hs => plK_set hs hl
  have HPZ := Lib.hid (plK_zero l)
  generalize hnn : l.length = n at *
  have HN := Lib.hid hnn
  clear hnn hx
  go_enter Tryd.func124, Tryd.ntmps124
  go_wp2_with (refine wpList_alloc_arr rfl 145 rfl _ zeroPl ?_)
  intro W1 hW1
  replace hW1 := hW1.out
  have t1 := hW1 ▸ turn_alloc w (.cells (bys (List.replicate 20 0)).toArray 145)
  have r1 := hW1 ▸ ArrAt.new w 145 (List.replicate 20 0)
  have z1 := hW1 ▸ World.size_alloc w (.cells (bys (List.replicate 20 0)).toArray 145)
  clear hW1
  generalize hB : w.heap.size = B at *
  have HBE := Lib.hid hB
  clear hB
  go_wp2_with (refine wpList_alloc_arr rfl 145 rfl _ zeroPl ?_)
  intro W2 hW2
  replace hW2 := hW2.out
  have t2 := hW2 ▸ turn_alloc W1 (.cells (bys (List.replicate 20 0)).toArray 145)
  have r2 := hW2 ▸ ArrAt.new W1 145 (List.replicate 20 0)
  have z2 := hW2 ▸ World.size_alloc W1 (.cells (bys (List.replicate 20 0)).toArray 145)
  rw [z1] at r2 z2
  replace r1 := r1.keep t2 (by omega)
  replace t1 := turn_trans t1 t2 (by omega)
  rw [← HPZ.out] at r2
  clear hW2 t2 z1
  go_wp2_with fail
  go_loopw [8] (fun i wr => ∃ k : Nat, k ≤ n ∧ i = .int .i64 k ∧ ArrAt wr (B + 1) 145 (plK l k) ∧ ArrAt wr B 145 (List.replicate 20 0) ∧ TurnIn 0 0 w wr ∧ B + 1 + 1 ≤ wr.heap.size)
    (fun i _ => n - (intOf i).toNat)
  case atStart => exact ⟨0, by omega, rfl, r2, r1, t1, by omega⟩
  case round =>
    obtain ⟨k, hk, rfl, p2, p1, s1, z5⟩ := hrel
    clear r1 r2 t1 z2
    by_cases hlt : k < n
    · obtain ⟨b, off, rfl, hbl, hcell⟩ := HX.out (by omega)
      obtain ⟨⟨x, y⟩, hks⟩ := at_ltR HN.out hlt
      have hb := s1.to_below
      have hc1 := (hb.cell (p := ⟨b, off + k * 2, none⟩) (by rw [HBE.out]; exact hbl)).trans (hcell k _ hks).1
      have hc2 := (hb.cell (p := ⟨b, off + k * 2 + 1, none⟩) (by rw [HBE.out]; exact hbl)).trans (hcell k _ hks).2
      simp only at hc1 hc2
      have hki : (k : Int) < (n : Int) := by omega
      have hk20 : (k : Int) < 20 := by omega
      have ta := turn_alloc wr (.cells #[.int .u8 (x.toNat : Int), .int .u8 (y.toNat : Int)] 59)
      have za := World.size_alloc wr (.cells #[.int .u8 (x.toNat : Int), .int .u8 (y.toNat : Int)] 59)
      have p2a := p2.keep ta (by omega)
      have p1a := p1.keep ta (by omega)
      have hco := p2a.cellAt (HPG.out k hlt)
      have hfr := p2a.frozen k
      have hst := p2a.set k x
      have tst := turn_set (wr.alloc (.cells #[.int .u8 (x.toNat : Int), .int .u8 (y.toNat : Int)] 59)) (B + 1) k (.int .u8 (x.toNat : Int))
      rw [HPS.out k _ hks] at hst
      have HST := Lib.hid hst
      have HP1 := Lib.hid (p1a.keep tst (by omega))
      have HS1 : Hid (TurnIn 0 0 w _) := turn_trans (turn_trans s1 ta (by omega)) tst (by have := HBE.out; omega)
      clear hcell hks hb ta hst tst p2 p1 p2a p1a
      go_wp2_with fail
      go_roundw
      case rel => exact ⟨k + 1, by omega, by go_num, HST.out, HP1.out, HS1.out, by simp; omega⟩
      case measure => simp [intOf]; omega
    · obtain rfl : k = n := by omega
      have hki : ¬ (k : Int) < (k : Int) := by omega
      have hP := HPL.out k (Nat.le_refl _)
      have hTe := HPE.out
      rw [hTe] at p2 hP
      clear hTe
      go_wp2_with (refine wpList_load_arr rfl 145 _ rfl (B + 1) 20 20 5 _ _ rfl p2 sizePl Tryd.underlying145 hP ?_)
      intro u hu
      replace hu := hu.out
      subst hu
      go_wp2_with (refine wpList_store_arr rfl 145 _ _ rfl B 20 _ _ (pad20 (xsL l)) rfl rfl p1 sizePl (by simp) hP ?_)
      intro W5 hW5
      replace hW5 := hW5.out
      have r5 := hW5 ▸ p1.row (pad20 (xsL l))
      have t5 := hW5 ▸ turn_row wr B (bys (pad20 (xsL l))).toArray
      have hb6 : TurnIn 0 0 w W5 := turn_trans s1 t5 (by have := HBE.out; omega)
      clear hW5
      go_wp2_with fail
      exact bodyPost_ret (ret_arr rfl _ B 20 20 _ 5 _ rfl r5 Tryd.underlying145 sizePl hP) rfl ⟨rfl, hb6⟩

set_option maxRecDepth 100000 in
set_option maxHeartbeats 2000000 in
theorem addShares_own (v u : Value) (a b : List Sr) (w : World) (hv : SeenR w v a) (hu : SeenR w u b) :
    Calls Tryd.prog 54 #[v, u] w (RetSrsOk 59 w (adsR a b) (adsOk a b)) := by
  have HV := Lib.hid hv
  have HU := Lib.hid hu
  obtain ⟨A, c, rfl, hlc, hcm, hx⟩ := hv
  obtain ⟨A', c', rfl, hlc', hcm', hx'⟩ := hu
  unfold maxLen at hcm hcm'
  have HX := Lib.hid hx
  have HX' := Lib.hid hx'
  clear hx hx'
  by_cases hs : shrOk a = true
  · have HS := Lib.hid hs
    have h20 := shr_20 hs
    clear hs
    by_cases hs2 : shrOk b = true
    · have HS2 := Lib.hid hs2
      have h20' := shr_20 hs2
      clear hs2
      have HNE : Hid (∀ W, (binOp .neq 145 (aggL (pad20 (xsL a))) (aggL (pad20 (xsL b)))).run Tryd.prog W = .ok (.bool (!(sameX a b))) W) := fun W => by
        have := neqPl (pad20 (xsL a)) (pad20 (xsL b)) (pad20_length (by rw [xsL_len]; exact h20)) (pad20_length (by rw [xsL_len]; exact h20')) W
        rwa [sameX_beq HS.out HS2.out] at this
      by_cases hx3 : sameX a b = true
      · have hne : ∀ W, (binOp .neq 145 (aggL (pad20 (xsL a))) (aggL (pad20 (xsL b)))).run Tryd.prog W = .ok (.bool false) W := fun W => by rw [HNE.out W, hx3]; rfl
        have heg : ∀ x y W, (eqGuard .neq 145 x y (aggL (pad20 (xsL a))) (aggL (pad20 (xsL b)))).run Tryd.prog W = .ok () W := fun x y W => eqgPl x y _ _ W
        have HO := Lib.hid (adsOk_yes HS.out HS2.out hx3)
        have HR := Lib.hid (adsR_yes HO.out)
        have HSET := Lib.hid (adsL_set a b)
        have HAL := Lib.hid (adsL_length a b)
        obtain ⟨i0, hi0, hz0, hz1, hz2⟩ := info_parts infoShare
        obtain ⟨hlen, _⟩ := (sameX_iff a b).1 hx3
        generalize hnn : a.length = n at *
        have HN := Lib.hid hnn
        have HN' := Lib.hid hlen.symm
        clear hnn hx3 hlen
        go_enter Tryd.func54, Tryd.ntmps54
        go_wp2_with fail
        refine (goodShares_own _ a _ HV.out).mono ?_
        rintro e w1 ⟨rfl, k1⟩
        rw [HS.out]
        go_wp2_with fail
        refine (goodShares_own _ b _ (HU.out.below k1.to_below)).mono ?_
        rintro e w2 ⟨rfl, k2'⟩
        rw [HS2.out]
        have k2 := turn_trans k1 k2' (by omega)
        go_wp2_with fail
        refine (placesOf_own _ a _ (HV.out.below k2.to_below) (by rw [HN.out]; exact h20)).mono ?_
        rintro e w3 ⟨rfl, k3'⟩
        have k3 := turn_trans k2 k3' (by omega)
        go_wp2_with fail
        refine (placesOf_own _ b _ (HU.out.below k3.to_below) h20').mono ?_
        rintro e w4 ⟨rfl, k4'⟩
        have k4 := turn_trans k3 k4' (by omega)
        clear k1 k2 k2' k3 k3' k4'
        generalize hB : w4.heap.size = B at *
        have zB : B ≤ w4.heap.size := by omega
        have zw : w.heap.size ≤ B := by have := k4.size; omega
        have hB' : w4.heap.size = B := hB
        clear hB
        go_wp2_with (at_make; refine wpList_make_full _ rfl _ _ _ rfl B _ i0 _ 2 Tryd.underlying53 hi0 hz0 hz1 _ _ _ _ n rfl rfl rfl rfl ?b2 ?b3 ?b4 ?_)
        case b2 => rw [hz2]; omega
        case b3 => unfold maxLen; omega
        case b4 => omega
        intro w5 hown hg5
        rw [toList_madeCells_srs] at hown
        try rw [hB'] at hown
        have t5 := TurnIn.of_below (below_of_grown hg5 (Nat.le_refl _) (by simp))
        have k5 := turn_trans k4 t5 (by omega)
        have hsz5 : B + 1 ≤ w5.heap.size := by have := (hown.lt B rfl).2; omega
        clear t5 hg5 k4 hB' zB
        go_wp2_with fail
        go_loopw [29] (fun i wr => ∃ k : Nat, k ≤ n ∧ i = .int .i64 k ∧ wr.ownsRow B 59 2 (.slice (some ⟨B, 0, none⟩) n n) n (srs ((adsL a b).take k ++ List.replicate (n - k) ((0 : UInt8), (0 : UInt8)))) ∧ TurnIn 0 0 w wr ∧ B + 1 ≤ wr.heap.size)
          (fun i _ => n - (intOf i).toNat)
        case atStart => exact ⟨0, Nat.zero_le _, rfl, by simpa using hown, k5, hsz5⟩
        case round =>
          obtain ⟨k, hk, rfl, ho, k6, z6⟩ := hrel
          clear hown k5 hsz5
          by_cases hlt : k < n
          · have hki : (k : Int) < (n : Int) := by omega
            have hkb : k < b.length := by rw [HN'.out]; exact hlt
            have hkbi : (k : Int) < (b.length : Int) := by omega
            obtain ⟨ba, offa, rfl, hbl, hcell⟩ := HX.out (by omega)
            obtain ⟨bb, offb, rfl, hbl', hcell'⟩ := HX'.out (by omega)
            obtain ⟨⟨x, y⟩, hks⟩ := at_ltR HN.out hlt
            obtain ⟨⟨x', y'⟩, hks'⟩ := at_ltR (rfl : b.length = b.length) hkb
            obtain ⟨e1, e2⟩ := at_xy hks
            obtain ⟨e1', e2'⟩ := at_xy hks'
            have hb6 := k6.to_below
            have hc1 := (hb6.cell (p := ⟨ba, offa + k * 2, none⟩) hbl).trans (hcell k _ hks).1
            have hc2 := (hb6.cell (p := ⟨ba, offa + k * 2 + 1, none⟩) hbl).trans (hcell k _ hks).2
            have hc3 := (hb6.cell (p := ⟨bb, offb + k * 2 + 1, none⟩) hbl').trans (hcell' k _ hks').2
            simp only at hc1 hc2 hc3 e1 e2 e1' e2'
            have ta := turn_alloc wr (.cells #[.int .u8 (x.toNat : Int), .int .u8 (y.toNat : Int)] 59)
            have za := World.size_alloc wr (.cells #[.int .u8 (x.toNat : Int), .int .u8 (y.toNat : Int)] 59)
            have hc4 := cell_turn ta hc3 (by omega)
            have hp0 : (wr.alloc (.cells #[.int .u8 (x.toNat : Int), .int .u8 (y.toNat : Int)] 59)).cell? ⟨wr.heap.size, 0, none⟩ = some (.int .u8 (x.toNat : Int)) := by simp
            have hp1 : (wr.alloc (.cells #[.int .u8 (x.toNat : Int), .int .u8 (y.toNat : Int)] 59)).cell? ⟨wr.heap.size, 1, none⟩ = some (.int .u8 (y.toNat : Int)) := by simp
            have HSE : Hid (((adsL a b).take k ++ List.replicate (n - k) ((0 : UInt8), (0 : UInt8))).set k (x, y ^^^ y') = (adsL a b).take (k + 1) ++ List.replicate (n - (k + 1)) ((0 : UInt8), (0 : UInt8))) := HSET.out k x _ hlt e1 (by rw [← e2, ← e2'])
            obtain ⟨⟨o1, o2, hd1, hd2⟩, hf1, hf2, hst⟩ := row_pair (owns_turn0 ho ta) hlt x (y ^^^ y')
            rw [HSE.out] at hst
            have tA := turn_set (wr.alloc (.cells #[.int .u8 (x.toNat : Int), .int .u8 (y.toNat : Int)] 59)) B (k * 2) (.int .u8 (x.toNat : Int))
            have tB := turn_set ((wr.alloc (.cells #[.int .u8 (x.toNat : Int), .int .u8 (y.toNat : Int)] 59)).setCell ⟨B, k * 2, none⟩ (.int .u8 (x.toNat : Int))) B (k * 2 + 1) (.int .u8 ((y ^^^ y').toNat : Int))
            have HK7 : Hid (TurnIn 0 0 w _) := turn_trans (turn_trans (turn_trans k6 ta (by omega)) tA (by omega)) tB (by omega)
            have HST := Lib.hid hst
            have hxx := xor_u8 y y'
            clear hcell hcell' hks hks' e1 e2 e1' e2' hb6 ta tA tB hst ho k6 hc3
            go_wp2_with fail
            generalize wr.alloc (.cells #[.int .u8 (x.toNat : Int), .int .u8 (y.toNat : Int)] 59) = Wa at *
            generalize hBp : wr.heap.size = Bp at *
            clear hBp hc1 hc2
            refine wp_region_still_tail 14 (by kernel_rfl) (by kernel_rfl) ?_
            simp only [List.take_succ_cons, List.take_zero, List.drop_succ_cons, List.drop_zero]
            repeat still_step
            refine wpStill_nil ?_
            go_wp2_with fail
            go_roundw
            case rel => exact ⟨k + 1, by omega, by go_num, HST.out, turn_drewA HK7.out, by simp; omega⟩
            case measure => simp [intOf]; omega
          · obtain rfl : k = n := by omega
            have hki : ¬ (k : Int) < (k : Int) := by omega
            go_wp2_with fail
            go_ret2
            refine ⟨_, by rw [HO.out]; rfl, ?_, k6⟩
            rw [HR.out]
            rw [List.take_of_length_le (by rw [HAL.out]; exact Nat.le_refl _), Nat.sub_self] at ho
            have h3 : wr.ownsRow w.heap.size 59 2 (.slice (some ⟨B, 0, none⟩) k k) (adsL a b).length (srs (adsL a b)) := by
              rw [HAL.out]
              exact own_base (by simpa using ho) (by omega)
            exact OwnSr.of_made (w := w) h3
      · have hne : ∀ W, (binOp .neq 145 (aggL (pad20 (xsL a))) (aggL (pad20 (xsL b)))).run Tryd.prog W = .ok (.bool true) W := fun W => by rw [HNE.out W]; simp [hx3]
        have heg : ∀ x y W, (eqGuard .neq 145 x y (aggL (pad20 (xsL a))) (aggL (pad20 (xsL b)))).run Tryd.prog W = .ok () W := fun x y W => eqgPl x y _ _ W
        have HO := Lib.hid (adsOk_x (a := a) (b := b) (by simpa using hx3))
        have HR := Lib.hid (adsR_no HO.out)
        generalize hnn : a.length = n at *
        have HN := Lib.hid hnn
        clear hnn hx3
        go_enter Tryd.func54, Tryd.ntmps54
        go_wp2_with fail
        refine (goodShares_own _ a _ HV.out).mono ?_
        rintro e w1 ⟨rfl, k1⟩
        rw [HS.out]
        go_wp2_with fail
        refine (goodShares_own _ b _ (HU.out.below k1.to_below)).mono ?_
        rintro e w2 ⟨rfl, k2'⟩
        rw [HS2.out]
        have k2 := turn_trans k1 k2' (by omega)
        go_wp2_with fail
        refine (placesOf_own _ a _ (HV.out.below k2.to_below) (by rw [HN.out]; exact h20)).mono ?_
        rintro e w3 ⟨rfl, k3'⟩
        have k3 := turn_trans k2 k3' (by omega)
        go_wp2_with fail
        refine (placesOf_own _ b _ (HU.out.below k3.to_below) h20').mono ?_
        rintro e w4 ⟨rfl, k4'⟩
        have k4 := turn_trans k3 k4' (by omega)
        go_wp2_with fail
        go_ret2
        exact ⟨_, by rw [HO.out]; rfl, by rw [HR.out]; exact ⟨World.ownsRow_nil _ _ _ _, Nat.le_refl _, fun g e => by simp [Value.ownBlock] at e⟩, k4⟩
    · have HS2 : Hid (shrOk b = false) := by show _ = _; simpa using hs2
      have HO := Lib.hid (adsOk_b (a := a) HS2.out)
      have HR := Lib.hid (adsR_no HO.out)
      clear hs2
      generalize hnn : a.length = n at *
      clear hnn
      go_enter Tryd.func54, Tryd.ntmps54
      go_wp2_with fail
      refine (goodShares_own _ a _ HV.out).mono ?_
      rintro e w1 ⟨rfl, k1⟩
      rw [HS.out]
      go_wp2_with fail
      refine (goodShares_own _ b _ (HU.out.below k1.to_below)).mono ?_
      rintro e w2 ⟨rfl, k2'⟩
      rw [HS2.out]
      have k2 := turn_trans k1 k2' (by omega)
      go_wp2_with fail
      go_ret2
      exact ⟨_, by rw [HO.out]; rfl, by rw [HR.out]; exact ⟨World.ownsRow_nil _ _ _ _, Nat.le_refl _, fun g e => by simp [Value.ownBlock] at e⟩, k2⟩
  · have HS : Hid (shrOk a = false) := by show _ = _; simpa using hs
    have HO := Lib.hid (adsOk_a (b := b) HS.out)
    have HR := Lib.hid (adsR_no HO.out)
    clear hs
    generalize hnn : a.length = n at *
    clear hnn
    go_enter Tryd.func54, Tryd.ntmps54
    go_wp2_with fail
    refine (goodShares_own _ a _ HV.out).mono ?_
    rintro e w1 ⟨rfl, k1⟩
    rw [HS.out]
    go_wp2_with fail
    go_ret2
    exact ⟨_, by rw [HO.out]; rfl, by rw [HR.out]; exact ⟨World.ownsRow_nil _ _ _ _, Nat.le_refl _, fun g e => by simp [Value.ownBlock] at e⟩, k1⟩

set_option maxRecDepth 100000 in
set_option maxHeartbeats 4000000 in
theorem sAddShares_own (v u : Value) (a b : List Sr) (w : World) (hv : SeenR w v a) (hu : SeenR w u b) :
    Calls Tryd.prog 55 #[v, u] w (RetSrsOk 59 w (adsR a b) (adsOk a b)) := by
  have HV := Lib.hid hv
  have HU := Lib.hid hu
  obtain ⟨A, c, rfl, hlc, hcm, hx⟩ := hv
  obtain ⟨A', c', rfl, hlc', hcm', hx'⟩ := hu
  unfold maxLen at hcm hcm'
  have HX := Lib.hid hx
  have HX' := Lib.hid hx'
  clear hx hx'
  by_cases hs : shrOk a = true
  · have HS := Lib.hid hs
    have h20 := shr_20 hs
    clear hs
    by_cases hs2 : shrOk b = true
    · have HS2 := Lib.hid hs2
      clear hs2
      by_cases hlen : a.length = b.length
      · have HGET0 := Lib.hid (adsL_get a b)
        have HAL := Lib.hid (adsL_length a b)
        have HYE : Hid (sameX a b = true → adsOk a b = true) := fun h => adsOk_yes HS.out HS2.out h
        have HNE : Hid (sameX a b = false → adsOk a b = false) := fun h => adsOk_x h
        have HSI := Lib.hid (sameX_iff a b)
        have hbn : ((a.length : Int) != (b.length : Int)) = false := by simp; omega
        have HN' : Hid (b.length = a.length) := hlen.symm
        generalize hmm : b.length = m at *
        generalize hnn : a.length = n at *
        have HN := Lib.hid hnn
        have HM := Lib.hid hmm
        clear hnn hmm hlen
        go_enter Tryd.func55, Tryd.ntmps55
        go_wp2_with fail
        refine (l7Shares_own _ a _ HV.out).mono ?_
        rintro e w1 ⟨rfl, k1⟩
        rw [HS.out]
        go_wp2_with fail
        refine (l7Shares_own _ b _ (HU.out.below k1.to_below)).mono ?_
        rintro e w2 ⟨rfl, k2'⟩
        rw [HS2.out]
        have k2 := turn_trans k1 k2' (by omega)
        have z2 := k2.size
        generalize hD : w2.heap.size = D at *
        have zD : D ≤ w2.heap.size := by omega
        clear hD k1 k2'
        go_wp2_with fail
        go_loopw [6, 26] (fun o i wr => ∃ (k : Nat) (v' : Value), k ≤ n ∧ i = .int .i64 k ∧ o = v' ∧ wr.ownsRow D 59 2 v' k (srs ((adsL a b).take k)) ∧ Hid (∀ i, i < k → xF a i = xF b i) ∧ TurnIn 0 0 w wr ∧ D ≤ wr.heap.size)
          (fun _ i _ => n - (intOf i).toNat)
        case atStart => exact ⟨0, _, Nat.zero_le _, rfl, rfl, World.ownsRow_nil _ _ _ _, (fun _ h => by omega), k2, zD⟩
        case round =>
          obtain ⟨k, v', hk, rfl, hov, ho, HE, k5, z5⟩ := hrel
          replace hov := hov.symm
          subst hov
          clear k2 zD
          by_cases hlt : k < n
          · have hki : (k : Int) < (n : Int) := by omega
            have hkm : k < m := by rw [HN'.out]; exact hlt
            have hkmi : (k : Int) < (m : Int) := by omega
            obtain ⟨ba, offa, rfl, hbl, hcell⟩ := HX.out (by omega)
            obtain ⟨bb, offb, rfl, hbl', hcell'⟩ := HX'.out (by omega)
            obtain ⟨⟨x, y⟩, hks⟩ := at_ltR HN.out hlt
            obtain ⟨⟨x', y'⟩, hks'⟩ := at_ltR HM.out hkm
            obtain ⟨e1, e2⟩ := at_xy hks
            obtain ⟨e1', e2'⟩ := at_xy hks'
            have hb6 := k5.to_below
            have hc1 := (hb6.cell (p := ⟨ba, offa + k * 2, none⟩) hbl).trans (hcell k _ hks).1
            have hc2 := (hb6.cell (p := ⟨ba, offa + k * 2 + 1, none⟩) hbl).trans (hcell k _ hks).2
            have hc3 := (hb6.cell (p := ⟨bb, offb + k * 2, none⟩) hbl').trans (hcell' k _ hks').1
            have hc4 := (hb6.cell (p := ⟨bb, offb + k * 2 + 1, none⟩) hbl').trans (hcell' k _ hks').2
            simp only at hc1 hc2 hc3 hc4 e1 e2 e1' e2'
            have ta := turn_alloc wr (.cells #[.int .u8 (x.toNat : Int), .int .u8 (y.toNat : Int)] 59)
            have hp0 : (wr.alloc (.cells #[.int .u8 (x.toNat : Int), .int .u8 (y.toNat : Int)] 59)).cell? ⟨wr.heap.size, 0, none⟩ = some (.int .u8 (x.toNat : Int)) := by simp
            have hp1 : (wr.alloc (.cells #[.int .u8 (x.toNat : Int), .int .u8 (y.toNat : Int)] 59)).cell? ⟨wr.heap.size, 1, none⟩ = some (.int .u8 (y.toNat : Int)) := by simp
            have zq := World.size_alloc wr (.cells #[.int .u8 (x.toNat : Int), .int .u8 (y.toNat : Int)] 59)
            have hp3 := cell_turn ta hc3 (by omega)
            have hp4 := cell_turn ta hc4 (by omega)
            have ho2 := owns_turn0 ho ta
            have k6 := turn_trans k5 ta (by omega)
            have HLT : Hid (∀ g, v'.ownBlock = some g → D ≤ g ∧ g < wr.heap.size) := fun g e => ho.lt g e
            have zw := k5.size
            clear hcell hcell' hks hks' hb6 ta ho k5 hc3 hc4
            by_cases hxx : x' = x
            · have hbx : ((x'.toNat : Int) != (x.toNat : Int)) = false := by rw [hxx]; simp
              have HE2 : Hid (∀ i, i < k + 1 → xF a i = xF b i) := fun i hi => by
                rcases Nat.lt_or_ge i k with h' | h'
                · exact HE.out i h'
                · obtain rfl : i = k := by omega
                  rw [← e1, ← e1', hxx]
              have HGET : Hid ((adsL a b).take k ++ [(x, y ^^^ y')] = (adsL a b).take (k + 1)) := by
                show _ = _
                rw [List.take_add_one, HGET0.out k hlt, ← e1, ← e2, ← e2']; rfl
              clear hxx e1 e2 e1' e2'
              go_wp2_with fail
              generalize wr.alloc (.cells #[.int .u8 (x.toNat : Int), .int .u8 (y.toNat : Int)] 59) = Wa at *
              generalize hBp : wr.heap.size = Bp at *
              clear hBp hc1 hc2
              go_quiet (fail)
              have q0 : (Wa.drewN nq).cell? ⟨Bp, 0, none⟩ = some (.int .u8 (x.toNat : Int)) := hp0
              have q1 : (Wa.drewN nq).cell? ⟨Bp, 1, none⟩ = some (.int .u8 (y.toNat : Int)) := hp1
              have q4 : (Wa.drewN nq).cell? ⟨bb, offb + k * 2 + 1, none⟩ = some (.int .u8 (y'.toNat : Int)) := hp4
              have qo : (Wa.drewN nq).ownsRow D 59 2 v' k (srs ((adsL a b).take k)) := ho2
              have qk : TurnIn 0 0 w (Wa.drewN nq) := ⟨k6.os, k6.tape, k6.output, k6.size, k6.block⟩
              have qz : Bp < (Wa.drewN nq).heap.size := by show Bp < Wa.heap.size; omega
              clear hp0 hp1 hp3 hp4 ho2 k6 zq
              generalize Wa.drewN nq = Wb at *
              have HOW := Lib.hid qo
              have HQK := Lib.hid qk
              clear qo qk
              have t9 := turn_trans (drew_turnA Wb) (turn_alloc Wb.drew (.cells #[.int .u8 (x.toNat : Int), .int .u8 ((y ^^^ y').toNat : Int)] 59)) (by omega)
              have a0 := cell_turn t9 q0 (by omega)
              have a1 := cell_turn t9 q1 (by omega)
              have a4 := cell_turn t9 q4 (by omega)
              have HT9 := Lib.hid t9
              clear t9
              have hxor := xor_u8 y y'
              go_wp2_with fail
              go_region_held3 (fun w' => (w'.cell? ⟨Bp, 0, none⟩ = some (.int .u8 (x.toNat : Int)) ∧ w'.cell? ⟨Bp, 1, none⟩ = some (.int .u8 (y.toNat : Int))) ∧ w'.cell? ⟨bb, offb + k * 2 + 1, none⟩ = some (.int .u8 (y'.toNat : Int)))
                (first | exact ⟨⟨q0, q1⟩, q4⟩ | exact ⟨⟨a0, a1⟩, a4⟩ | exact ⟨⟨hq0, hq1⟩, hq4⟩)
                (first | (refine step_appendR (by rfl) _ _ _ (by rfl) D 59 _ _ Tryd.underlying53 infoShare rfl _ k ((adsL a b).take k) (by rfl) (owns_turn0 HOW.out HT9.out) Wb.heap.size x (y ^^^ y') (by rfl) (by simp) (by simp) (by omega) (by omega) (by simp; omega) ?_; intro v7 w8 ho8 hg8 _; have hq0 := hg8.cell a0 (fun e => by have := (HLT.out Bp e.symm).2; omega); have hq1 := hg8.cell a1 (fun e => by have := (HLT.out Bp e.symm).2; omega); have hq4 := hg8.cell a4 (fun e => by have := (HLT.out bb e.symm).1; omega)))
              all_goals
                rw [HGET.out] at ho8
                have k8 : TurnIn 0 0 w w8 := turn_grow (turn_trans HQK.out HT9.out (by omega)) hg8 (fun g e => by have := (HLT.out g e).1; omega)
                have z8 : D ≤ w8.heap.size := by have := hg8.size; simp at this; omega
                clear hg8 hq0 hq1 hq4 a0 a1 a4 q0 q1 q4
                go_wp2_with fail
                go_roundw
                case rel => exact ⟨k + 1, _, by omega, by go_num, rfl, ho8, HE2, k8, z8⟩
                case measure => simp [intOf]; omega
            · have hbx : ((x'.toNat : Int) != (x.toNat : Int)) = true := by rw [bne_iff_ne]; intro e; exact hxx (UInt8.toNat_inj.1 (by omega))
              have HF : Hid (sameX a b = false) := by
                show _ = _
                cases e : sameX a b
                · rfl
                · exfalso
                  have := (HSI.out.1 e).2 k (by omega)
                  rw [← e1, ← e1'] at this
                  exact hxx this.symm
              have HO := Lib.hid (HNE.out HF.out)
              have HR := Lib.hid (adsR_no HO.out)
              have HK6 := Lib.hid k6
              clear hxx e1 e2 e1' e2' ho2 k6
              go_wp2_with fail
              go_quiet (fail)
              go_wp2_with fail
              go_ret2
              exact ⟨_, by rw [HO.out]; rfl, by rw [HR.out]; exact ⟨World.ownsRow_nil _ _ _ _, Nat.le_refl _, fun g e => by simp [Value.ownBlock] at e⟩, ⟨HK6.out.os, HK6.out.tape, HK6.out.output, HK6.out.size, HK6.out.block⟩⟩
          · obtain rfl : k = n := by omega
            have hki : ¬ (k : Int) < (k : Int) := by omega
            have HO := Lib.hid (HYE.out (HSI.out.2 ⟨HN'.out.symm, HE.out⟩))
            have HR := Lib.hid (adsR_yes HO.out)
            go_wp2_with fail
            go_ret2
            refine ⟨_, by rw [HO.out]; rfl, ?_, k5⟩
            rw [HR.out]
            rw [List.take_of_length_le (by rw [HAL.out]; exact Nat.le_refl _)] at ho
            exact OwnSr.of_made (w := w) (by rw [HAL.out]; exact own_base ho (by omega))
      · have hbn : ((a.length : Int) != (b.length : Int)) = true := by simp; omega
        have HO := Lib.hid (adsOk_x (a := a) (b := b) (by simp [sameX, hlen]))
        have HR := Lib.hid (adsR_no HO.out)
        generalize hnn : a.length = n at *
        generalize hmm : b.length = m at *
        clear hnn hmm hlen
        go_enter Tryd.func55, Tryd.ntmps55
        go_wp2_with fail
        refine (l7Shares_own _ a _ HV.out).mono ?_
        rintro e w1 ⟨rfl, k1⟩
        rw [HS.out]
        go_wp2_with fail
        refine (l7Shares_own _ b _ (HU.out.below k1.to_below)).mono ?_
        rintro e w2 ⟨rfl, k2'⟩
        rw [HS2.out]
        have k2 := turn_trans k1 k2' (by omega)
        go_wp2_with fail
        go_ret2
        exact ⟨_, by rw [HO.out]; rfl, by rw [HR.out]; exact ⟨World.ownsRow_nil _ _ _ _, Nat.le_refl _, fun g e => by simp [Value.ownBlock] at e⟩, k2⟩
    · have HS2 : Hid (shrOk b = false) := by show _ = _; simpa using hs2
      have HO := Lib.hid (adsOk_b (a := a) HS2.out)
      have HR := Lib.hid (adsR_no HO.out)
      clear hs2
      generalize hnn : a.length = n at *
      generalize hmm : b.length = m at *
      clear hnn hmm
      go_enter Tryd.func55, Tryd.ntmps55
      go_wp2_with fail
      refine (l7Shares_own _ a _ HV.out).mono ?_
      rintro e w1 ⟨rfl, k1⟩
      rw [HS.out]
      go_wp2_with fail
      refine (l7Shares_own _ b _ (HU.out.below k1.to_below)).mono ?_
      rintro e w2 ⟨rfl, k2'⟩
      rw [HS2.out]
      have k2 := turn_trans k1 k2' (by omega)
      go_wp2_with fail
      go_ret2
      exact ⟨_, by rw [HO.out]; rfl, by rw [HR.out]; exact ⟨World.ownsRow_nil _ _ _ _, Nat.le_refl _, fun g e => by simp [Value.ownBlock] at e⟩, k2⟩
  · have HS : Hid (shrOk a = false) := by show _ = _; simpa using hs
    have HO := Lib.hid (adsOk_a (b := b) HS.out)
    have HR := Lib.hid (adsR_no HO.out)
    clear hs
    generalize hnn : a.length = n at *
    clear hnn
    go_enter Tryd.func55, Tryd.ntmps55
    go_wp2_with fail
    refine (l7Shares_own _ a _ HV.out).mono ?_
    rintro e w1 ⟨rfl, k1⟩
    rw [HS.out]
    go_wp2_with fail
    go_ret2
    exact ⟨_, by rw [HO.out]; rfl, by rw [HR.out]; exact ⟨World.ownsRow_nil _ _ _ _, Nat.le_refl _, fun g e => by simp [Value.ownBlock] at e⟩, k1⟩

end Go.Proofs.YtgbhcjfnkjhkiaaDoor
