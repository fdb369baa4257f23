/- ShareSecret: the program's and the model's. -/
import Derived.Test.YtgbhcjfnkjhkiaaDoorArr1
import Derived.Test.YtgbhcjfnkjhkiaaDoorGoodShr
import Derived.Test.YtgbhcjfnkjhkiaaDoorShrWalks
import Derived.Test.YtgbhcjfnkjhkiaaDoorShrApp
import Derived.Deep.RegionHeld3
set_option linter.unusedSimpArgs false
set_option linter.unusedVariables false
namespace G294
open Go Go.RowKit
theorem shaOk_rnd {l : List UInt8} {n : Int} (h : ¬ l.length ≤ 8) : shaOk l n = false := by simp [shaOk, h]
theorem shaOk_n {l : List UInt8} {n : Int} (h : ¬ (1 ≤ n ∧ n ≤ 20)) : shaOk l n = false := by
  unfold shaOk
  rw [decide_eq_false h, Bool.and_false]
theorem shaOk_yes {l : List UInt8} {n : Int} (h : l.length ≤ 8) (h1 : 1 ≤ n) (h2 : n ≤ 20) : shaOk l n = true := by simp [shaOk, h, h1, h2]
theorem byte_int (k : Nat) (h : k < 256) : ((UInt8.ofNat k).toNat : Int) = (k : Int) := by rw [UInt8.toNat_ofNat']; omega
theorem srs_one (x y : UInt8) : srs [(x, y)] = [.int .u8 (x.toNat : Int), .int .u8 (y.toNat : Int)] := rfl
end G294
namespace Go.Proofs.YtgbhcjfnkjhkiaaDoor
open Go.RowKit G294

set_option maxRecDepth 100000 in
set_option maxHeartbeats 2000000 in
theorem shareSecret_own (s : UInt8) (v : Value) (l : List UInt8) (n : Int) (w : World) (hv : Seen w v (bys l)) (ht : Tab w) (h0 : 0 < w.heap.size) :
    Calls Tryd.prog 36 #[.int .u8 (s.toNat : Int), v, .int .i64 n] w (RetSrsOk 59 w (shaR s l n) (shaOk l n)) := by
  have HV := Lib.hid hv
  have HT := Lib.hid ht
  obtain ⟨A, c, rfl, hlc, hcm, _⟩ := hv
  simp only [bys_length] at *
  unfold maxLen at hcm
  clear ht
  by_cases hr : l.length ≤ 8
  · have HD : Hid (decide (l.length ≤ 8) = true) := by show _ = _; simpa using hr
    by_cases h1 : n < 1
    · have HO := Lib.hid (shaOk_n (l := l) (n := n) (by omega))
      have HR := Lib.hid (shaR_no (s := s) HO.out)
      have hd1 : decide (n < 1) = true := by simpa using h1
      go_enter Tryd.func36, Tryd.ntmps36
      go_wp2_with fail
      refine (goodRandom_any _ l _ HV.out).mono ?_
      rintro e w1 ⟨rfl, rfl⟩
      rw [HD.out]
      go_wp2_with fail
      go_ret2
      exact ⟨_, by rw [HO.out]; rfl, by rw [HR.out]; exact ⟨World.ownsRow_nil _ _ _ _, Nat.le_refl _, fun g e => by simp [Value.ownBlock] at e⟩, TurnIn.refl _⟩
    · by_cases h2 : 20 < n
      · have HO := Lib.hid (shaOk_n (l := l) (n := n) (by omega))
        have HR := Lib.hid (shaR_no (s := s) HO.out)
        have hd1 : decide (n < 1) = false := by simpa using h1
        have hd2 : decide (20 < n) = true := by simpa using h2
        go_enter Tryd.func36, Tryd.ntmps36
        go_wp2_with fail
        refine (goodRandom_any _ l _ HV.out).mono ?_
        rintro e w1 ⟨rfl, rfl⟩
        rw [HD.out]
        go_wp2_with fail
        go_ret2
        exact ⟨_, by rw [HO.out]; rfl, by rw [HR.out]; exact ⟨World.ownsRow_nil _ _ _ _, Nat.le_refl _, fun g e => by simp [Value.ownBlock] at e⟩, TurnIn.refl _⟩
      · obtain ⟨m, rfl⟩ := Int.eq_ofNat_of_zero_le (show 0 ≤ n by omega)
        have HO := Lib.hid (shaOk_yes hr (show (1 : Int) ≤ m by omega) (show (m : Int) ≤ 20 by omega))
        have HR : Hid (shaR s l m = shaL s l m) := shaR_yes HO.out
        have hd1 : decide ((m : Int) < 1) = false := by simpa using h1
        have hd2 : decide (20 < (m : Int)) = false := by simpa using h2
        have hPL : (pad20 (s :: l)).length = 20 := pad20_length (by simp; omega)
        have HPH : Hid (∀ x, hor x (pad20 (s :: l)) = hor x (s :: l)) := fun x => hor_pad20 x _
        have hm1 : 1 ≤ m := by omega
        have hm2 : m ≤ 20 := by omega
        obtain ⟨i0, hi0, hz0, hz1, hz2⟩ := info_parts infoShare
        clear h1 h2
        go_enter Tryd.func36, Tryd.ntmps36
        go_wp2_with fail
        refine (goodRandom_any _ l _ HV.out).mono ?_
        rintro e w1 ⟨rfl, rfl⟩
        rw [HD.out]
        go_wp2_with fail
        refine (hidden_own s _ l _ HV.out (by omega)).mono ?_
        rintro e w2 ⟨rfl, k2⟩
        have z2 := k2.size
        go_wp2_with (refine wpList_alloc_arr rfl 136 rfl _ zeroCoef ?_)
        intro W2 hW2
        replace hW2 := hW2.out
        have t2 := hW2 ▸ turn_alloc w2 (.cells (bys (List.replicate 20 0)).toArray 136)
        have r2 := hW2 ▸ ArrAt.new w2 136 (List.replicate 20 0)
        have za := hW2 ▸ World.size_alloc w2 (.cells (bys (List.replicate 20 0)).toArray 136)
        replace k2 := turn_trans k2 t2 (by omega)
        clear hW2 t2
        generalize hB : w2.heap.size = B at *
        clear hB
        go_wp2_with (refine wpList_store_arr rfl 136 _ _ rfl B 20 _ _ (pad20 (s :: l)) rfl rfl r2 sizeCoef (by simp) hPL ?_)
        intro W3 hW3
        replace hW3 := hW3.out
        have r3 := hW3 ▸ r2.row (pad20 (s :: l))
        have t3 := hW3 ▸ turn_row W2 B (bys (pad20 (s :: l))).toArray
        replace k2 := turn_trans k2 t3 (by omega)
        have zb : W3.heap.size = B + 1 := by rw [hW3]; simp [za]
        clear hW3 t3 r2 za
        go_wp2_with (at_make; refine wpList_make_full _ rfl _ _ _ rfl (B + 1) _ i0 _ 2 Tryd.underlying53 hi0 hz0 hz1 _ _ _ _ m rfl rfl rfl rfl ?b2 ?b3 ?b4 ?_)
        case b2 => rw [hz2]; omega
        case b3 => unfold maxLen; omega
        case b4 => omega
        intro w4 hown hg4
        rw [toList_madeCells_srs] at hown
        have t4 := TurnIn.of_below (below_of_grown hg4 (Nat.le_refl _) (by simp))
        replace r3 := r3.keep t4 (by omega)
        replace k2 := turn_trans k2 t4 (by omega)
        have hsz4 : B + 2 ≤ w4.heap.size := by have := (hown.lt (B + 1) rfl).2; omega
        clear t4 hg4 zb
        go_wp2_with fail
        go_loopw [30] (fun i wr => ∃ k : Nat, k ≤ m ∧ i = .int .i64 k ∧ wr.ownsRow (B + 1) 59 2 (.slice (some ⟨B + 1, 0, none⟩) m m) m (srs ((shaL s l m).take k ++ List.replicate (m - k) ((0 : UInt8), (0 : UInt8)))) ∧ ArrAt wr B 136 (pad20 (s :: l)) ∧ TurnIn 0 0 w wr ∧ B + 2 ≤ wr.heap.size)
          (fun i _ => m - (intOf i).toNat)
        case atStart => exact ⟨0, Nat.zero_le _, rfl, by simpa using hown, r3, k2, hsz4⟩
        case round =>
          obtain ⟨k, hk, rfl, ho, r5, k5, z5⟩ := hrel
          clear hown r3 k2 hsz4
          by_cases hlt : k < m
          · have hki : (k : Int) < (m : Int) := by omega
            obtain ⟨x, hx⟩ : ∃ x, x = UInt8.ofNat (k + 1) := ⟨_, rfl⟩
            have HXI : Hid (((k : Int) + 1) = (x.toNat : Int)) := by show _ = _; rw [hx, byte_int _ (by omega)]; omega
            have HGET : Hid ((shaL s l m)[k]? = some (x, hor x (s :: l))) := by show _ = _; rw [hx]; exact shaL_get s l m k hlt
            have z6 := k5.size
            clear hx
            go_wp2_with fail
            rw [HXI.out]
            refine (valueAt_own _ (pad20 (s :: l)) x _ (r5.seen hPL (by omega)) (by omega) (HT.out.below k5.to_below h0) (by omega)).mono ?_
            rintro e w6 ⟨rfl, k6⟩
            rw [HPH.out x]
            have ho6 := owns_turn0 ho k6
            have r6 := r5.keep k6 (by omega)
            have k7 := turn_trans k5 k6 (by omega)
            have z7 := k6.size
            obtain ⟨y, hy⟩ : ∃ y, y = hor x (s :: l) := ⟨_, rfl⟩
            rw [← hy] at HGET ⊢
            have hlen : ((shaL s l m).take k ++ List.replicate (m - k) ((0 : UInt8), (0 : UInt8))).length = m := by simp; omega
            have hkl : k < ((shaL s l m).take k ++ List.replicate (m - k) ((0 : UInt8), (0 : UInt8))).length := by omega
            have hd1 : w6.cell? ⟨B + 1, k * 2, none⟩ = some (.int .u8 (((shaL s l m).take k ++ List.replicate (m - k) ((0 : UInt8), (0 : UInt8)))[k].1.toNat : Int)) := by rw [ho6.cellAt (k * 2) (by omega), srs_no _ k hkl]
            have hd2 : w6.cell? ⟨B + 1, k * 2 + 1, none⟩ = some (.int .u8 (((shaL s l m).take k ++ List.replicate (m - k) ((0 : UInt8), (0 : UInt8)))[k].2.toNat : Int)) := by rw [ho6.cellAt (k * 2 + 1) (by omega), srs_data _ k hkl]
            have hf1 := ho6.frozenAt (k * 2)
            have hf2 := ho6.frozenAt (k * 2 + 1)
            have hst := ho6.stored (k * 2) (.int .u8 (x.toNat : Int))
            have hst2 := hst.1.stored (k * 2 + 1) (.int .u8 (y.toNat : Int))
            rw [srs_set _ k (x, y) hkl, take_set_next (shaL s l m) _ k (x, y) HGET.out (by simp; omega)] at hst2
            have tA := turn_set w6 (B + 1) (k * 2) (.int .u8 (x.toNat : Int))
            have tB := turn_set (w6.setCell ⟨B + 1, k * 2, none⟩ (.int .u8 (x.toNat : Int))) (B + 1) (k * 2 + 1) (.int .u8 (y.toNat : Int))
            have HR6 := Lib.hid ((r6.keep tA (by omega)).keep tB (by omega))
            have HK7 : Hid (TurnIn 0 0 w _) := turn_trans (turn_trans k7 tA (by omega)) tB (by omega)
            have HST := Lib.hid hst2.1
            generalize ((shaL s l m).take k ++ List.replicate (m - k) ((0 : UInt8), (0 : UInt8)))[k] = old at hd1 hd2
            clear hst hst2 tA tB ho6 r6 k7 ho r5 hlen hkl hy
            go_wp2_with fail
            go_roundw
            case rel => exact ⟨k + 1, by omega, by go_num, by simpa [Nat.sub_sub] using HST.out, HR6.out, HK7.out, by simp; omega⟩
            case measure => simp [intOf]; omega
          · obtain rfl : k = m := by omega
            have hki : ¬ (k : Int) < (k : Int) := by omega
            go_wp2_with fail
            go_ret2
            refine ⟨_, by rw [HO.out]; rfl, ?_, k5⟩
            rw [HR.out]
            rw [List.take_of_length_le (by simp), Nat.sub_self] at ho
            have h3 : wr.ownsRow w.heap.size 59 2 (.slice (some ⟨B + 1, 0, none⟩) k k) (shaL s l k).length (srs (shaL s l k)) := by
              rw [shaL_length]
              exact own_base (by simpa using ho) (by omega)
            exact OwnSr.of_made (w := w) h3
  · have HD : Hid (decide (l.length ≤ 8) = false) := by show _ = _; simpa using hr
    have HO := Lib.hid (shaOk_rnd (l := l) (n := n) hr)
    have HR := Lib.hid (shaR_no (s := s) HO.out)
    go_enter Tryd.func36, Tryd.ntmps36
    go_wp2_with fail
    refine (goodRandom_any _ l _ HV.out).mono ?_
    rintro e w1 ⟨rfl, rfl⟩
    rw [HD.out]
    go_wp2_with fail
    go_ret2
    exact ⟨_, by rw [HO.out]; rfl, by rw [HR.out]; exact ⟨World.ownsRow_nil _ _ _ _, Nat.le_refl _, fun g e => by simp [Value.ownBlock] at e⟩, TurnIn.refl _⟩

set_option maxRecDepth 100000 in
set_option maxHeartbeats 2000000 in
theorem sShareSecret_own (s : UInt8) (v : Value) (l : List UInt8) (n : Int) (w : World) (hv : Seen w v (bys l)) (hN : NilOk v) :
    Calls Tryd.prog 37 #[.int .u8 (s.toNat : Int), v, .int .i64 n] w (RetSrsOk 59 w (shaR s l n) (shaOk l n)) := by
  have HV := Lib.hid hv
  have HNO := Lib.hid hN
  obtain ⟨A, c, rfl, hlc, hcm, _⟩ := hv
  simp only [bys_length] at *
  unfold maxLen at hcm
  clear hN
  by_cases hr : l.length ≤ 8
  · have hd : decide (8 < (l.length : Int)) = false := by simp; omega
    by_cases h1 : 1 ≤ n ∧ n ≤ 20
    · have HIN : Hid (inB n 1 20 = true) := by show decide _ = _; simpa using h1
      obtain ⟨m, rfl⟩ := Int.eq_ofNat_of_zero_le (show 0 ≤ n by omega)
      have HO := Lib.hid (shaOk_yes hr h1.1 h1.2)
      have HR : Hid (shaR s l m = shaL s l m) := shaR_yes HO.out
      have hm1 : 1 ≤ m := by omega
      have hm2 : m ≤ 20 := by omega
      clear h1
      go_enter Tryd.func37, Tryd.ntmps37
      go_wp2_with fail
      refine (l1In_any _ 1 20 _).mono ?_
      rintro e w1 ⟨rfl, rfl⟩
      rw [HIN.out]
      have ta := turn_alloc w (.cells #[.int .u8 (s.toNat : Int)] 5)
      have za := World.size_alloc w (.cells #[.int .u8 (s.toNat : Int)] 5)
      have ho : (w.alloc (.cells #[.int .u8 (s.toNat : Int)] 5)).ownsRow w.heap.size 5 1 (.slice (some ⟨w.heap.size, 0, none⟩) 1 1) 1 (bys [s]) := own_new1 w 5 (.int .u8 (s.toNat : Int))
      have HO1 := Lib.hid ho
      clear ho
      go_wp2_with (at_builtin; refine wpList_appendB rfl _ _ _ rfl w.heap.size 5 Tryd.underlying22 infoByte _ 1 [s] l rfl HO1.out _ rfl (HV.out.touch ta) HNO.out ?b1 ?b2 ?_)
      case b1 => omega
      case b2 => simp
      intro v2 w2 ho2 hg2
      have k2 := turn_grow ta hg2 (fun g e => by simp [Value.ownBlock] at e; omega)
      have hp2 : OwnBytes 5 w2 w.heap.size w2.heap.size v2 (s :: l) := ⟨by simpa [Nat.add_comm] using ho2, Nat.le_refl _, fun g hg => (ho2.lt g hg).2⟩
      have zz2 := k2.size
      generalize hD : w2.heap.size = D at *
      obtain ⟨A2, n2, c2, rfl⟩ : ∃ A2 n2 c2, v2 = .slice A2 n2 c2 := by
        obtain ⟨A2, c2, h⟩ := hp2.seen.len
        exact ⟨A2, _, c2, h⟩
      have zz3 : D ≤ w2.heap.size := by omega
      clear ho2 hg2 ta za HO1 hD
      go_wp2_with fail
      go_loopw [9, 10] (fun o i wr => ∃ (k : Nat) (v' : Value), k ≤ m ∧ i = .int .i64 ((k : Int) + 1) ∧ o = v' ∧ wr.ownsRow D 59 2 v' k (srs ((shaL s l m).take k)) ∧ OwnBytes 5 wr w.heap.size D (.slice A2 n2 c2) (s :: l) ∧ TurnIn 0 0 w wr ∧ D ≤ wr.heap.size)
        (fun _ i _ => m + 1 - (intOf i).toNat)
      case atStart => exact ⟨0, _, Nat.zero_le _, rfl, rfl, World.ownsRow_nil _ _ _ _, hp2, k2, zz3⟩
      case round =>
        obtain ⟨k, v', hk, rfl, rfl, ho, hp, k5, z5⟩ := hrel
        clear hp2 k2 zz3
        by_cases hlt : k < m
        · have hki : (k : Int) + 1 ≤ (m : Int) := by omega
          obtain ⟨x, hx⟩ : ∃ x, x = UInt8.ofNat (k + 1) := ⟨_, rfl⟩
          have HXI : Hid (((k : Int) + 1) = (x.toNat : Int)) := by show _ = _; rw [hx, byte_int _ (by omega)]; omega
          have HGET : Hid ((shaL s l m).take k ++ [(x, hor x (s :: l))] = (shaL s l m).take (k + 1)) := by
            show _ = _
            rw [List.take_add_one, shaL_get s l m k hlt, hx]; rfl
          clear hx
          go_wp2_with fail
          rw [HXI.out]
          refine (l7At_own _ (s :: l) x _ hp.seen).mono ?_
          rintro e w6 ⟨rfl, k6⟩
          have ho6 := owns_turn0 ho k6
          have hp6 := hp.keep k6 (by omega)
          have k7 := turn_trans k5 k6 (by omega)
          have z7 := k6.size
          obtain ⟨y, hy⟩ : ∃ y, y = hor x (s :: l) := ⟨_, rfl⟩
          rw [← hy] at HGET ⊢
          have ta := turn_alloc w6 (.cells #[.int .u8 (x.toNat : Int), .int .u8 (y.toNat : Int)] 59)
          have za := World.size_alloc w6 (.cells #[.int .u8 (x.toNat : Int), .int .u8 (y.toNat : Int)] 59)
          have HOA := Lib.hid (owns_turn0 ho6 ta)
          have HPA := Lib.hid (hp6.keep ta (by omega))
          have HKA : Hid (TurnIn 0 0 w _) := turn_trans k7 ta (by omega)
          clear ho ho6 hp hp6 hy
          go_wp2_with (at_builtin; refine wpList_appendR rfl _ _ _ rfl D 59 _ _ Tryd.underlying53 infoShare rfl _ k ((shaL s l m).take k) rfl HOA.out w6.heap.size x y rfl (by simp) (by simp) ?b1 (by omega) ?b3 ?_)
          case b1 => omega
          case b3 => simp; omega
          intro v7 w8 ho8 hg8 _
          rw [HGET.out] at ho8
          have t8 := grow_turn HOA.out hg8
          have hp8 := HPA.out.keep t8 (by omega)
          have k8 := turn_grow HKA.out hg8 (fun g e => by have := (HOA.out.lt g e).1; omega)
          have z8 : D ≤ w8.heap.size := by have := hg8.size; omega
          clear t8 hg8 HOA HPA HKA
          rw [← HXI.out]
          go_wp2_with fail
          go_roundw
          case rel => exact ⟨k + 1, _, by omega, by go_num, rfl, ho8, hp8, k8, z8⟩
          case measure => simp [intOf]; omega
        · obtain rfl : k = m := by omega
          have hki : ¬ (k : Int) + 1 ≤ (k : Int) := by omega
          go_wp2_with fail
          go_ret2
          refine ⟨_, by rw [HO.out]; rfl, ?_, k5⟩
          rw [HR.out]
          rw [List.take_of_length_le (by simp)] at ho
          exact OwnSr.of_made (w := w) (by rw [shaL_length]; exact own_base ho (by omega))
    · have HIN : Hid (inB n 1 20 = false) := by show decide _ = _; simpa using h1
      have HO := Lib.hid (shaOk_n (l := l) (n := n) h1)
      have HR := Lib.hid (shaR_no (s := s) HO.out)
      clear h1
      go_enter Tryd.func37, Tryd.ntmps37
      go_wp2_with fail
      refine (l1In_any _ 1 20 _).mono ?_
      rintro e w1 ⟨rfl, rfl⟩
      rw [HIN.out]
      go_wp2_with fail
      go_ret2
      exact ⟨_, by rw [HO.out]; rfl, by rw [HR.out]; exact ⟨World.ownsRow_nil _ _ _ _, Nat.le_refl _, fun g e => by simp [Value.ownBlock] at e⟩, TurnIn.refl _⟩
  · have hd : decide (8 < (l.length : Int)) = true := by simp; omega
    have HO := Lib.hid (shaOk_rnd (l := l) (n := n) hr)
    have HR := Lib.hid (shaR_no (s := s) HO.out)
    go_enter Tryd.func37, Tryd.ntmps37
    go_wp2_with fail
    go_ret2
    exact ⟨_, by rw [HO.out]; rfl, by rw [HR.out]; exact ⟨World.ownsRow_nil _ _ _ _, Nat.le_refl _, fun g e => by simp [Value.ownBlock] at e⟩, TurnIn.refl _⟩

end Go.Proofs.YtgbhcjfnkjhkiaaDoor
