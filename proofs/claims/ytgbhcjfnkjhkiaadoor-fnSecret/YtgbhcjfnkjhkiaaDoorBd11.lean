/- Joined texts: ShaSec, CurWalks, CurVec, Cur8, Cur9. -/
import Derived.Test.YtgbhcjfnkjhkiaaDoorBd05
import Derived.Test.YtgbhcjfnkjhkiaaDoorBd04
import Derived.Test.YtgbhcjfnkjhkiaaDoorBd06
import Derived.Deep.RegionHeld3
import Derived.Test.YtgbhcjfnkjhkiaaDoorProg
import Derived.Deep.QuietTactic
import Derived.BigQuiet
import Derived.Test.YtgbhcjfnkjhkiaaDoorBd02
import Derived.Test.YtgbhcjfnkjhkiaaDoorBd03
set_option linter.unusedSimpArgs false
set_option linter.unusedVariables false
/- ShareSecret: the program's and the model's. -/
namespace G294
open Go Go.RowKit
theorem shaOk_rnd {l : List UInt8} {n : Int} (h : ¬ l.length ≤ 8) : shaOk l n = false := by simp [shaOk, h]
theorem shaOk_n {l : List UInt8} {n : Int} (h : ¬ (1 ≤ n ∧ n ≤ 20)) : shaOk l n = false := by
  unfold shaOk
  rw [decide_eq_false h, Bool.and_false]
theorem shaOk_yes {l : List UInt8} {n : Int} (h : l.length ≤ 8) (h1 : 1 ≤ n) (h2 : n ≤ 20) : shaOk l n = true := by simp [shaOk, h, h1, h2]
theorem byte_int (k : Nat) (h : k < 256) : ((UInt8.ofNat k).toNat : Int) = (k : Int) := by rw [UInt8.toNat_ofNat']; omega
theorem srs_one (x y : UInt8) : srs [(x, y)] = [.int .u8 (x.toNat : Int), .int .u8 (y.toNat : Int)] := rfl
end G294
namespace Go.Proofs.YtgbhcjfnkjhkiaaDoor
open Go.RowKit G294

set_option maxRecDepth 100000 in
set_option maxHeartbeats 2000000 in
theorem shareSecret_own (s : UInt8) (v : Value) (l : List UInt8) (n : Int) (w : World) (hv : Seen w v (bys l)) (ht : Tab w) (h0 : 0 < w.heap.size) :
    Calls Tryd.prog 36 #[.int .u8 (s.toNat : Int), v, .int .i64 n] w (RetSrsOk 59 w (shaR s l n) (shaOk l n)) := by
  have HV := Lib.hid hv
  have HT := Lib.hid ht
  obtain ⟨A, c, rfl, hlc, hcm, _⟩ := hv
  simp only [bys_length] at *
  unfold maxLen at hcm
  clear ht
  by_cases hr : l.length ≤ 8
  · have HD : Hid (decide (l.length ≤ 8) = true) := by show _ = _; simpa using hr
    by_cases h1 : n < 1
    · have HO := Lib.hid (shaOk_n (l := l) (n := n) (by omega))
      have HR := Lib.hid (shaR_no (s := s) HO.out)
      have hd1 : decide (n < 1) = true := by simpa using h1
      go_enter Tryd.func36, Tryd.ntmps36
      go_wp2_with fail
      refine (goodRandom_any _ l _ HV.out).mono ?_
      rintro e w1 ⟨rfl, rfl⟩
      rw [HD.out]
      go_wp2_with fail
      go_ret2
      exact ⟨_, by rw [HO.out]; rfl, by rw [HR.out]; exact ⟨World.ownsRow_nil _ _ _ _, Nat.le_refl _, fun g e => by simp [Value.ownBlock] at e⟩, TurnIn.refl _⟩
    · by_cases h2 : 20 < n
      · have HO := Lib.hid (shaOk_n (l := l) (n := n) (by omega))
        have HR := Lib.hid (shaR_no (s := s) HO.out)
        have hd1 : decide (n < 1) = false := by simpa using h1
        have hd2 : decide (20 < n) = true := by simpa using h2
        go_enter Tryd.func36, Tryd.ntmps36
        go_wp2_with fail
        refine (goodRandom_any _ l _ HV.out).mono ?_
        rintro e w1 ⟨rfl, rfl⟩
        rw [HD.out]
        go_wp2_with fail
        go_ret2
        exact ⟨_, by rw [HO.out]; rfl, by rw [HR.out]; exact ⟨World.ownsRow_nil _ _ _ _, Nat.le_refl _, fun g e => by simp [Value.ownBlock] at e⟩, TurnIn.refl _⟩
      · obtain ⟨m, rfl⟩ := Int.eq_ofNat_of_zero_le (show 0 ≤ n by omega)
        have HO := Lib.hid (shaOk_yes hr (show (1 : Int) ≤ m by omega) (show (m : Int) ≤ 20 by omega))
        have HR : Hid (shaR s l m = shaL s l m) := shaR_yes HO.out
        have hd1 : decide ((m : Int) < 1) = false := by simpa using h1
        have hd2 : decide (20 < (m : Int)) = false := by simpa using h2
        have hPL : (pad20 (s :: l)).length = 20 := pad20_length (by simp; omega)
        have HPH : Hid (∀ x, hor x (pad20 (s :: l)) = hor x (s :: l)) := fun x => hor_pad20 x _
        have hm1 : 1 ≤ m := by omega
        have hm2 : m ≤ 20 := by omega
        obtain ⟨i0, hi0, hz0, hz1, hz2⟩ := info_parts infoShare
        clear h1 h2
        go_enter Tryd.func36, Tryd.ntmps36
        go_wp2_with fail
        refine (goodRandom_any _ l _ HV.out).mono ?_
        rintro e w1 ⟨rfl, rfl⟩
        rw [HD.out]
        go_wp2_with fail
        refine (hidden_own s _ l _ HV.out (by omega)).mono ?_
        rintro e w2 ⟨rfl, k2⟩
        have z2 := k2.size
        go_wp2_with (refine wpList_alloc_arr rfl 136 rfl _ zeroCoef ?_)
        intro W2 hW2
        replace hW2 := hW2.out
        have t2 := hW2 ▸ turn_alloc w2 (.cells (bys (List.replicate 20 0)).toArray 136)
        have r2 := hW2 ▸ ArrAt.new w2 136 (List.replicate 20 0)
        have za := hW2 ▸ World.size_alloc w2 (.cells (bys (List.replicate 20 0)).toArray 136)
        replace k2 := turn_trans k2 t2 (by omega)
        clear hW2 t2
        generalize hB : w2.heap.size = B at *
        clear hB
        go_wp2_with (refine wpList_store_arr rfl 136 _ _ rfl B 20 _ _ (pad20 (s :: l)) rfl rfl r2 sizeCoef (by simp) hPL ?_)
        intro W3 hW3
        replace hW3 := hW3.out
        have r3 := hW3 ▸ r2.row (pad20 (s :: l))
        have t3 := hW3 ▸ turn_row W2 B (bys (pad20 (s :: l))).toArray
        replace k2 := turn_trans k2 t3 (by omega)
        have zb : W3.heap.size = B + 1 := by rw [hW3]; simp [za]
        clear hW3 t3 r2 za
        go_wp2_with (at_make; refine wpList_make_full _ rfl _ _ _ rfl (B + 1) _ i0 _ 2 Tryd.underlying53 hi0 hz0 hz1 _ _ _ _ m rfl rfl rfl rfl ?b2 ?b3 ?b4 ?_)
        case b2 => rw [hz2]; omega
        case b3 => unfold maxLen; omega
        case b4 => omega
        intro w4 hown hg4
        rw [toList_madeCells_srs] at hown
        have t4 := TurnIn.of_below (below_of_grown hg4 (Nat.le_refl _) (by simp))
        replace r3 := r3.keep t4 (by omega)
        replace k2 := turn_trans k2 t4 (by omega)
        have hsz4 : B + 2 ≤ w4.heap.size := by have := (hown.lt (B + 1) rfl).2; omega
        clear t4 hg4 zb
        go_wp2_with fail
        go_loopw [30] (fun i wr => ∃ k : Nat, k ≤ m ∧ i = .int .i64 k ∧ wr.ownsRow (B + 1) 59 2 (.slice (some ⟨B + 1, 0, none⟩) m m) m (srs ((shaL s l m).take k ++ List.replicate (m - k) ((0 : UInt8), (0 : UInt8)))) ∧ ArrAt wr B 136 (pad20 (s :: l)) ∧ TurnIn 0 0 w wr ∧ B + 2 ≤ wr.heap.size)
          (fun i _ => m - (intOf i).toNat)
        case atStart => exact ⟨0, Nat.zero_le _, rfl, by simpa using hown, r3, k2, hsz4⟩
        case round =>
          obtain ⟨k, hk, rfl, ho, r5, k5, z5⟩ := hrel
          clear hown r3 k2 hsz4
          by_cases hlt : k < m
          · have hki : (k : Int) < (m : Int) := by omega
            obtain ⟨x, hx⟩ : ∃ x, x = UInt8.ofNat (k + 1) := ⟨_, rfl⟩
            have HXI : Hid (((k : Int) + 1) = (x.toNat : Int)) := by show _ = _; rw [hx, byte_int _ (by omega)]; omega
            have HGET : Hid ((shaL s l m)[k]? = some (x, hor x (s :: l))) := by show _ = _; rw [hx]; exact shaL_get s l m k hlt
            have z6 := k5.size
            clear hx
            go_wp2_with fail
            rw [HXI.out]
            refine (valueAt_own _ (pad20 (s :: l)) x _ (r5.seen hPL (by omega)) (by omega) (HT.out.below k5.to_below h0) (by omega)).mono ?_
            rintro e w6 ⟨rfl, k6⟩
            rw [HPH.out x]
            have ho6 := owns_turn0 ho k6
            have r6 := r5.keep k6 (by omega)
            have k7 := turn_trans k5 k6 (by omega)
            have z7 := k6.size
            obtain ⟨y, hy⟩ : ∃ y, y = hor x (s :: l) := ⟨_, rfl⟩
            rw [← hy] at HGET ⊢
            have hlen : ((shaL s l m).take k ++ List.replicate (m - k) ((0 : UInt8), (0 : UInt8))).length = m := by simp; omega
            have hkl : k < ((shaL s l m).take k ++ List.replicate (m - k) ((0 : UInt8), (0 : UInt8))).length := by omega
            have hd1 : w6.cell? ⟨B + 1, k * 2, none⟩ = some (.int .u8 (((shaL s l m).take k ++ List.replicate (m - k) ((0 : UInt8), (0 : UInt8)))[k].1.toNat : Int)) := by rw [ho6.cellAt (k * 2) (by omega), srs_no _ k hkl]
            have hd2 : w6.cell? ⟨B + 1, k * 2 + 1, none⟩ = some (.int .u8 (((shaL s l m).take k ++ List.replicate (m - k) ((0 : UInt8), (0 : UInt8)))[k].2.toNat : Int)) := by rw [ho6.cellAt (k * 2 + 1) (by omega), srs_data _ k hkl]
            have hf1 := ho6.frozenAt (k * 2)
            have hf2 := ho6.frozenAt (k * 2 + 1)
            have hst := ho6.stored (k * 2) (.int .u8 (x.toNat : Int))
            have hst2 := hst.1.stored (k * 2 + 1) (.int .u8 (y.toNat : Int))
            rw [srs_set _ k (x, y) hkl, take_set_next (shaL s l m) _ k (x, y) HGET.out (by simp; omega)] at hst2
            have tA := turn_set w6 (B + 1) (k * 2) (.int .u8 (x.toNat : Int))
            have tB := turn_set (w6.setCell ⟨B + 1, k * 2, none⟩ (.int .u8 (x.toNat : Int))) (B + 1) (k * 2 + 1) (.int .u8 (y.toNat : Int))
            have HR6 := Lib.hid ((r6.keep tA (by omega)).keep tB (by omega))
            have HK7 : Hid (TurnIn 0 0 w _) := turn_trans (turn_trans k7 tA (by omega)) tB (by omega)
            have HST := Lib.hid hst2.1
            generalize ((shaL s l m).take k ++ List.replicate (m - k) ((0 : UInt8), (0 : UInt8)))[k] = old at hd1 hd2
            clear hst hst2 tA tB ho6 r6 k7 ho r5 hlen hkl hy
            go_wp2_with fail
            go_roundw
            case rel => exact ⟨k + 1, by omega, by go_num, by simpa [Nat.sub_sub] using HST.out, HR6.out, HK7.out, by simp; omega⟩
            case measure => simp [intOf]; omega
          · obtain rfl : k = m := by omega
            have hki : ¬ (k : Int) < (k : Int) := by omega
            go_wp2_with fail
            go_ret2
            refine ⟨_, by rw [HO.out]; rfl, ?_, k5⟩
            rw [HR.out]
            rw [List.take_of_length_le (by simp), Nat.sub_self] at ho
            have h3 : wr.ownsRow w.heap.size 59 2 (.slice (some ⟨B + 1, 0, none⟩) k k) (shaL s l k).length (srs (shaL s l k)) := by
              rw [shaL_length]
              exact own_base (by simpa using ho) (by omega)
            exact OwnSr.of_made (w := w) h3
  · have HD : Hid (decide (l.length ≤ 8) = false) := by show _ = _; simpa using hr
    have HO := Lib.hid (shaOk_rnd (l := l) (n := n) hr)
    have HR := Lib.hid (shaR_no (s := s) HO.out)
    go_enter Tryd.func36, Tryd.ntmps36
    go_wp2_with fail
    refine (goodRandom_any _ l _ HV.out).mono ?_
    rintro e w1 ⟨rfl, rfl⟩
    rw [HD.out]
    go_wp2_with fail
    go_ret2
    exact ⟨_, by rw [HO.out]; rfl, by rw [HR.out]; exact ⟨World.ownsRow_nil _ _ _ _, Nat.le_refl _, fun g e => by simp [Value.ownBlock] at e⟩, TurnIn.refl _⟩

set_option maxRecDepth 100000 in
set_option maxHeartbeats 2000000 in
theorem sShareSecret_own (s : UInt8) (v : Value) (l : List UInt8) (n : Int) (w : World) (hv : Seen w v (bys l)) (hN : NilOk v) :
    Calls Tryd.prog 37 #[.int .u8 (s.toNat : Int), v, .int .i64 n] w (RetSrsOk 59 w (shaR s l n) (shaOk l n)) := by
  have HV := Lib.hid hv
  have HNO := Lib.hid hN
  obtain ⟨A, c, rfl, hlc, hcm, _⟩ := hv
  simp only [bys_length] at *
  unfold maxLen at hcm
  clear hN
  by_cases hr : l.length ≤ 8
  · have hd : decide (8 < (l.length : Int)) = false := by simp; omega
    by_cases h1 : 1 ≤ n ∧ n ≤ 20
    · have HIN : Hid (inB n 1 20 = true) := by show decide _ = _; simpa using h1
      obtain ⟨m, rfl⟩ := Int.eq_ofNat_of_zero_le (show 0 ≤ n by omega)
      have HO := Lib.hid (shaOk_yes hr h1.1 h1.2)
      have HR : Hid (shaR s l m = shaL s l m) := shaR_yes HO.out
      have hm1 : 1 ≤ m := by omega
      have hm2 : m ≤ 20 := by omega
      clear h1
      go_enter Tryd.func37, Tryd.ntmps37
      go_wp2_with fail
      refine (l1In_any _ 1 20 _).mono ?_
      rintro e w1 ⟨rfl, rfl⟩
      rw [HIN.out]
      have ta := turn_alloc w (.cells #[.int .u8 (s.toNat : Int)] 5)
      have za := World.size_alloc w (.cells #[.int .u8 (s.toNat : Int)] 5)
      have ho : (w.alloc (.cells #[.int .u8 (s.toNat : Int)] 5)).ownsRow w.heap.size 5 1 (.slice (some ⟨w.heap.size, 0, none⟩) 1 1) 1 (bys [s]) := own_new1 w 5 (.int .u8 (s.toNat : Int))
      have HO1 := Lib.hid ho
      clear ho
      go_wp2_with (at_builtin; refine wpList_appendB rfl _ _ _ rfl w.heap.size 5 Tryd.underlying22 infoByte _ 1 [s] l rfl HO1.out _ rfl (HV.out.touch ta) HNO.out ?b1 ?b2 ?_)
      case b1 => omega
      case b2 => simp
      intro v2 w2 ho2 hg2
      have k2 := turn_grow ta hg2 (fun g e => by simp [Value.ownBlock] at e; omega)
      have hp2 : OwnBytes 5 w2 w.heap.size w2.heap.size v2 (s :: l) := ⟨by simpa [Nat.add_comm] using ho2, Nat.le_refl _, fun g hg => (ho2.lt g hg).2⟩
      have zz2 := k2.size
      generalize hD : w2.heap.size = D at *
      obtain ⟨A2, n2, c2, rfl⟩ : ∃ A2 n2 c2, v2 = .slice A2 n2 c2 := by
        obtain ⟨A2, c2, h⟩ := hp2.seen.len
        exact ⟨A2, _, c2, h⟩
      have zz3 : D ≤ w2.heap.size := by omega
      clear ho2 hg2 ta za HO1 hD
      go_wp2_with fail
      go_loopw [9, 10] (fun o i wr => ∃ (k : Nat) (v' : Value), k ≤ m ∧ i = .int .i64 ((k : Int) + 1) ∧ o = v' ∧ wr.ownsRow D 59 2 v' k (srs ((shaL s l m).take k)) ∧ OwnBytes 5 wr w.heap.size D (.slice A2 n2 c2) (s :: l) ∧ TurnIn 0 0 w wr ∧ D ≤ wr.heap.size)
        (fun _ i _ => m + 1 - (intOf i).toNat)
      case atStart => exact ⟨0, _, Nat.zero_le _, rfl, rfl, World.ownsRow_nil _ _ _ _, hp2, k2, zz3⟩
      case round =>
        obtain ⟨k, v', hk, rfl, rfl, ho, hp, k5, z5⟩ := hrel
        clear hp2 k2 zz3
        by_cases hlt : k < m
        · have hki : (k : Int) + 1 ≤ (m : Int) := by omega
          obtain ⟨x, hx⟩ : ∃ x, x = UInt8.ofNat (k + 1) := ⟨_, rfl⟩
          have HXI : Hid (((k : Int) + 1) = (x.toNat : Int)) := by show _ = _; rw [hx, byte_int _ (by omega)]; omega
          have HGET : Hid ((shaL s l m).take k ++ [(x, hor x (s :: l))] = (shaL s l m).take (k + 1)) := by
            show _ = _
            rw [List.take_add_one, shaL_get s l m k hlt, hx]; rfl
          clear hx
          go_wp2_with fail
          rw [HXI.out]
          refine (l7At_own _ (s :: l) x _ hp.seen).mono ?_
          rintro e w6 ⟨rfl, k6⟩
          have ho6 := owns_turn0 ho k6
          have hp6 := hp.keep k6 (by omega)
          have k7 := turn_trans k5 k6 (by omega)
          have z7 := k6.size
          obtain ⟨y, hy⟩ : ∃ y, y = hor x (s :: l) := ⟨_, rfl⟩
          rw [← hy] at HGET ⊢
          have ta := turn_alloc w6 (.cells #[.int .u8 (x.toNat : Int), .int .u8 (y.toNat : Int)] 59)
          have za := World.size_alloc w6 (.cells #[.int .u8 (x.toNat : Int), .int .u8 (y.toNat : Int)] 59)
          have HOA := Lib.hid (owns_turn0 ho6 ta)
          have HPA := Lib.hid (hp6.keep ta (by omega))
          have HKA : Hid (TurnIn 0 0 w _) := turn_trans k7 ta (by omega)
          clear ho ho6 hp hp6 hy
          go_wp2_with (at_builtin; refine wpList_appendR rfl _ _ _ rfl D 59 _ _ Tryd.underlying53 infoShare rfl _ k ((shaL s l m).take k) rfl HOA.out w6.heap.size x y rfl (by simp) (by simp) ?b1 (by omega) ?b3 ?_)
          case b1 => omega
          case b3 => simp; omega
          intro v7 w8 ho8 hg8 _
          rw [HGET.out] at ho8
          have t8 := grow_turn HOA.out hg8
          have hp8 := HPA.out.keep t8 (by omega)
          have k8 := turn_grow HKA.out hg8 (fun g e => by have := (HOA.out.lt g e).1; omega)
          have z8 : D ≤ w8.heap.size := by have := hg8.size; omega
          clear t8 hg8 HOA HPA HKA
          rw [← HXI.out]
          go_wp2_with fail
          go_roundw
          case rel => exact ⟨k + 1, _, by omega, by go_num, rfl, ho8, hp8, k8, z8⟩
          case measure => simp [intOf]; omega
        · obtain rfl : k = m := by omega
          have hki : ¬ (k : Int) + 1 ≤ (k : Int) := by omega
          go_wp2_with fail
          go_ret2
          refine ⟨_, by rw [HO.out]; rfl, ?_, k5⟩
          rw [HR.out]
          rw [List.take_of_length_le (by simp)] at ho
          exact OwnSr.of_made (w := w) (by rw [shaL_length]; exact own_base ho (by omega))
    · have HIN : Hid (inB n 1 20 = false) := by show decide _ = _; simpa using h1
      have HO := Lib.hid (shaOk_n (l := l) (n := n) h1)
      have HR := Lib.hid (shaR_no (s := s) HO.out)
      clear h1
      go_enter Tryd.func37, Tryd.ntmps37
      go_wp2_with fail
      refine (l1In_any _ 1 20 _).mono ?_
      rintro e w1 ⟨rfl, rfl⟩
      rw [HIN.out]
      go_wp2_with fail
      go_ret2
      exact ⟨_, by rw [HO.out]; rfl, by rw [HR.out]; exact ⟨World.ownsRow_nil _ _ _ _, Nat.le_refl _, fun g e => by simp [Value.ownBlock] at e⟩, TurnIn.refl _⟩
  · have hd : decide (8 < (l.length : Int)) = true := by simp; omega
    have HO := Lib.hid (shaOk_rnd (l := l) (n := n) hr)
    have HR := Lib.hid (shaR_no (s := s) HO.out)
    go_enter Tryd.func37, Tryd.ntmps37
    go_wp2_with fail
    go_ret2
    exact ⟨_, by rw [HO.out]; rfl, by rw [HR.out]; exact ⟨World.ownsRow_nil _ _ _ _, Nat.le_refl _, fun g e => by simp [Value.ownBlock] at e⟩, TurnIn.refl _⟩

end Go.Proofs.YtgbhcjfnkjhkiaaDoor

/- Contracts of the model's cursor: what it draws is some number; only its own block is written. -/
namespace Go.Proofs.YtgbhcjfnkjhkiaaDoor
open Go.RowKit G294

/-- the cursor at block g: its code lies below g, it has moved at most n times -/
def CurAt (w : World) (g : Nat) (cv : Value) (n : Nat) : Prop :=
  ∃ (at_ : Nat) (seed : Int) (l : List UInt8) (A : Option Addr) (c : Nat), w.heap[g]? = some (.cells #[cv, .int .i64 at_, .int .u64 seed] 94 (0, 0)) ∧ at_ ≤ n ∧
    cv = .slice A l.length c ∧ l.length ≤ c ∧ c ≤ maxLen ∧ (0 < l.length → ∃ b off, A = some ⟨b, off, none⟩ ∧ b < g ∧ ∀ i u, (bys l)[i]? = some u → w.cell? ⟨b, off + i, none⟩ = some u)

/-- a number in a range is drawn -/
def Draws (w : World) (g : Nat) (cv : Value) (n : Nat) (lo hi : Int) (e : Ending) (w' : World) : Prop := ∃ r : Int, e = .returned (.int .i64 r) ∧ lo ≤ r ∧ r ≤ hi ∧ CurAt w' g cv n ∧ TurnIn g (g + 1) w w'

theorem draws_end {w : World} {g n at_ c : Nat} {seed s r : Int} {l : List UInt8} {A : Option Addr} (q q' : Nat)
    (hg : w.heap[g]? = some (.cells #[.slice A l.length c, .int .i64 at_, .int .u64 seed] 94 (0, 0))) (hat : at_ ≤ n) (hlc : l.length ≤ c) (hcm : c ≤ maxLen)
    (hx : 0 < l.length → ∃ b off, A = some ⟨b, off, none⟩ ∧ b < g ∧ ∀ i u, (bys l)[i]? = some u → w.cell? ⟨b, off + i, none⟩ = some u) (h0 : 0 ≤ r) (h1 : r ≤ 255) :
    Draws w g (.slice A l.length c) (n + 1) 0 255 (.returned (.int .i64 r)) ((((w.drewN q).setCell ⟨g, 1, none⟩ (.int .i64 ((at_ : Int) + 1))).setCell ⟨g, 2, none⟩ (.int .u64 s)).drewN q') := by
  have e1 : ((((w.drewN q).setCell ⟨g, 1, none⟩ (.int .i64 ((at_ : Int) + 1))).setCell ⟨g, 2, none⟩ (.int .u64 s)).drewN q').heap[g]? = some (.cells #[.slice A l.length c, .int .i64 ((at_ + 1 : Nat) : Int), .int .u64 s] 94 (0, 0)) := by
    have h2 : (w.drewN q).heap[g]? = some (.cells #[.slice A l.length c, .int .i64 at_, .int .u64 seed] 94 (0, 0)) := hg
    have h3 := heap_setCell_same (w.drewN q) g 1 _ _ (.int .i64 ((at_ : Int) + 1)) h2
    have h4 := heap_setCell_same _ g 2 _ _ (.int .u64 s) h3
    exact h4.trans (by simp)
  have hblk : ∀ k, k ≠ g → ((((w.drewN q).setCell ⟨g, 1, none⟩ (.int .i64 ((at_ : Int) + 1))).setCell ⟨g, 2, none⟩ (.int .u64 s)).drewN q').heap[k]? = w.heap[k]? := fun k hk => by
    have h3 := heap_setCell_other (w.drewN q) ⟨g, 1, none⟩ k (.int .i64 ((at_ : Int) + 1)) hk
    have h4 := heap_setCell_other ((w.drewN q).setCell ⟨g, 1, none⟩ (.int .i64 ((at_ : Int) + 1))) ⟨g, 2, none⟩ k (.int .u64 s) hk
    exact h4.trans h3
  refine ⟨r, rfl, h0, h1, ⟨at_ + 1, s, l, A, c, e1, by omega, rfl, hlc, hcm, fun hp => ?_⟩, ⟨rfl, rfl, rfl, ?_, fun k hk hd => hblk k (by omega)⟩⟩
  · obtain ⟨b, off, rfl, hb, hc⟩ := hx hp
    exact ⟨b, off, rfl, hb, fun i u hu => (World.cell?_of_block (a := ⟨b, off + i, none⟩) (hblk b (by omega))).trans (hc i u hu)⟩
  · simp [World.setCell, World.drewN]
theorem wrap64_u8 (x : UInt8) : wrap64 (x.toNat : Int) = (x.toNat : Int) := by
  have := x.toNat_lt
  unfold wrap64; omega
theorem and255 (x : Int) : 0 ≤ wrap64 (bits BinOp.and IntKind.u64 x 255) ∧ wrap64 (bits BinOp.and IntKind.u64 x 255) ≤ 255 := by
  have h : 0 ≤ bits BinOp.and IntKind.u64 x 255 ∧ bits BinOp.and IntKind.u64 x 255 ≤ 255 := by
    show 0 ≤ IntKind.u64.wrap ((BitVec.ofInt 64 x &&& BitVec.ofInt 64 255).toNat : Int) ∧ IntKind.u64.wrap ((BitVec.ofInt 64 x &&& BitVec.ofInt 64 255).toNat : Int) ≤ 255
    have e : (BitVec.ofInt 64 255).toNat = 255 := by decide
    have hle : (BitVec.ofInt 64 x &&& BitVec.ofInt 64 255).toNat ≤ 255 := by
      rw [BitVec.toNat_and, e]; exact Nat.and_le_right
    generalize (BitVec.ofInt 64 x &&& BitVec.ofInt 64 255).toNat = y at *
    have : IntKind.u64.wrap (y : Int) = y := by simp [IntKind.wrap, IntKind.bits, IntKind.signed]; omega
    omega
  generalize bits BinOp.and IntKind.u64 x 255 = y at *
  unfold wrap64; omega

set_option maxHeartbeats 1000000 in
theorem next_any (g : Nat) (cv : Value) (n : Nat) (w : World) (hc : CurAt w g cv n) (hn : n ≤ 1000000000000) :
    Calls Tryd.prog 135 #[.pointer (some ⟨g, 0, none⟩)] w (Draws w g cv (n + 1) 0 255) := by
  obtain ⟨at_, seed, l, A, c, hg, hat, rfl, hlc, hcm, hx⟩ := hc
  unfold maxLen at hcm
  have hc0 : w.cell? ⟨g, 0, none⟩ = some (.slice A l.length c) := by rw [cell_of_row w g 0 _ _ _ hg]; rfl
  have hc1 : w.cell? ⟨g, 1, none⟩ = some (.int .i64 at_) := by rw [cell_of_row w g 1 _ _ _ hg]; rfl
  have hc2 : w.cell? ⟨g, 2, none⟩ = some (.int .u64 seed) := by rw [cell_of_row w g 2 _ _ _ hg]; rfl
  have hf1 : w.frozen? ⟨g, 1, none⟩ = false := frozen_of_row w g 1 _ _ hg
  have hf2 : w.frozen? ⟨g, 2, none⟩ = false := frozen_of_row w g 2 _ _ hg
  have HG := Lib.hid hg
  clear hg
  by_cases hlt : at_ < l.length
  · obtain ⟨b, off, rfl, hbl, hcell⟩ := hx (by omega)
    have hcx := hcell at_ _ (bys_get l at_ hlt)
    have hd : decide ((at_ : Int) < (l.length : Int)) = true := by simp; omega
    have hli : (at_ : Int) < (l.length : Int) := by omega
    have HX := Lib.hid hcell
    clear hcell hx
    go_enter Tryd.func135, Tryd.ntmps135
    go_wp2_with fail
    go_quiet (fail)
    go_wp2_with fail
    go_quiet (fail)
    go_wp2_with fail
    go_quiet (fail)
    go_wp2_with fail
    go_ret
    have hu := l[at_].toNat_lt
    exact draws_end _ _ HG.out hat hlc hcm (fun _ => ⟨b, off, rfl, hbl, HX.out⟩) (by rw [wrap64_u8]; omega) (by rw [wrap64_u8]; omega)
  · have HX := Lib.hid hx
    clear hx
    have hd : decide ((at_ : Int) < (l.length : Int)) = false := by simp; omega
    go_enter Tryd.func135, Tryd.ntmps135
    go_wp2_with fail
    go_quiet (fail)
    go_wp2_with fail
    go_quiet (fail)
    go_wp2_with fail
    go_ret
    exact draws_end _ _ HG.out hat hlc hcm HX.out (and255 _).1 (and255 _).2

theorem CurAt.more {w : World} {g : Nat} {cv : Value} {n m : Nat} (h : CurAt w g cv n) (hm : n ≤ m) : CurAt w g cv m := by
  obtain ⟨at_, seed, l, A, c, h1, h2, h3⟩ := h
  exact ⟨at_, seed, l, A, c, h1, by omega, h3⟩
theorem CurAt.lt {w : World} {g : Nat} {cv : Value} {n : Nat} (h : CurAt w g cv n) : g < w.heap.size := by
  obtain ⟨at_, seed, l, A, c, h1, _⟩ := h
  exact (Array.getElem?_eq_some_iff.1 h1).1
theorem CurAt.keep {w w' : World} {g : Nat} {cv : Value} {n a b : Nat} (h : CurAt w g cv n) (t : TurnIn a b w w') (hd : g < a ∨ b ≤ 0) : CurAt w' g cv n := by
  have hl := h.lt
  obtain ⟨at_, seed, l, A, c, h1, h2, h3, h4, h5, h6⟩ := h
  refine ⟨at_, seed, l, A, c, (t.block g hl (by omega)).trans h1, h2, h3, h4, h5, fun hp => ?_⟩
  obtain ⟨b', off, rfl, hb, hc⟩ := h6 hp
  exact ⟨b', off, rfl, hb, fun i u hu => (World.cell?_of_block (a := ⟨b', off + i, none⟩) (t.block b' (by omega) (by omega))).trans (hc i u hu)⟩

/-- what pick may answer at most -/
def pickHi (n : Int) : Int := if n ≤ 1 then 0 else n - 1

set_option maxHeartbeats 1000000 in
theorem pick_any (g : Nat) (cv : Value) (m : Nat) (n : Int) (w : World) (hc : CurAt w g cv m) (hm : m ≤ 100000000000) :
    Calls Tryd.prog 93 #[.pointer (some ⟨g, 0, none⟩), .int .i64 n] w (Draws w g cv (m + 2) 0 (pickHi n)) := by
  by_cases h1 : n ≤ 1
  · have HP : Hid (pickHi n = 0) := if_pos h1
    go_enter Tryd.func93, Tryd.ntmps93
    go_wp2_with fail
    go_ret
    exact ⟨0, rfl, by omega, by rw [HP.out]; omega, hc.more (by omega), ⟨rfl, rfl, rfl, Nat.le_refl _, fun _ _ _ => rfl⟩⟩
  · have HP : Hid (pickHi n = n - 1) := if_neg h1
    by_cases h2 : 200 < n
    · go_enter Tryd.func93, Tryd.ntmps93
      go_wp2_with fail
      refine (next_any g cv m _ hc (by omega)).mono ?_
      rintro e w1 ⟨x, rfl, x0, x1, hc1, k1⟩
      go_wp2_with fail
      refine (next_any g cv (m + 1) _ hc1 (by omega)).mono ?_
      rintro e w2 ⟨y, rfl, y0, y1, hc2, k2⟩
      have hn0 : (n == 0) = false := by simp; omega
      have HR := Lib.hid (Int.emod_nonneg (x * 256 + y) (show n ≠ 0 by omega))
      have HL := Lib.hid (Int.emod_lt_of_pos (x * 256 + y) (show 0 < n by omega))
      go_wp2_with fail
      go_ret
      refine ⟨(x * 256 + y) % n, rfl, HR.out, by rw [HP.out]; have := HL.out; omega, hc2, turn_trans k1 k2 (by omega)⟩
    · go_enter Tryd.func93, Tryd.ntmps93
      go_wp2_with fail
      refine (next_any g cv m _ hc (by omega)).mono ?_
      rintro e w1 ⟨x, rfl, x0, x1, hc1, k1⟩
      have hn0 : (n == 0) = false := by simp; omega
      have HR := Lib.hid (Int.emod_nonneg x (show n ≠ 0 by omega))
      have HL := Lib.hid (Int.emod_lt_of_pos x (show 0 < n by omega))
      go_wp2_with fail
      go_ret
      exact ⟨x % n, rfl, HR.out, by rw [HP.out]; have := HL.out; omega, hc1.more (by omega), k1⟩

/-- a bool is drawn -/
def DrawsB (w : World) (g : Nat) (cv : Value) (n : Nat) (e : Ending) (w' : World) : Prop := ∃ b : Bool, e = .returned (.bool b) ∧ CurAt w' g cv n ∧ TurnIn g (g + 1) w w'

set_option maxHeartbeats 400000 in
theorem one_any (g : Nat) (cv : Value) (m : Nat) (n : Int) (w : World) (hc : CurAt w g cv m) (hm : m ≤ 100000000000) :
    Calls Tryd.prog 118 #[.pointer (some ⟨g, 0, none⟩), .int .i64 n] w (DrawsB w g cv (m + 2)) := by
  go_enter Tryd.func118, Tryd.ntmps118
  go_wp2_with fail
  refine (pick_any g cv m n _ hc hm).mono ?_
  rintro e w1 ⟨x, rfl, x0, x1, hc1, k1⟩
  go_wp2_with fail
  go_ret
  exact ⟨_, rfl, hc1, k1⟩

/-- one of some numbers is drawn -/
def DrawsOf (w : World) (g : Nat) (cv : Value) (n : Nat) (l : List Int) (e : Ending) (w' : World) : Prop := ∃ r : Int, e = .returned (.int .i64 r) ∧ r ∈ l ∧ CurAt w' g cv n ∧ TurnIn g (g + 1) w w'

set_option maxHeartbeats 400000 in
theorem among_any (g : Nat) (cv : Value) (m : Nat) (b c : Nat) (l : List Int) (w : World) (hc : CurAt w g cv m) (hm : m ≤ 100000000000) (hp : 0 < l.length) (hl : l.length ≤ 1000) (hlc : l.length ≤ c) (hc' : c ≤ 1000) (hbg : b ≠ g) (hbl : b < w.heap.size)
    (hcell : ∀ i u, (ints l)[i]? = some u → w.cell? ⟨b, i, none⟩ = some u) :
    Calls Tryd.prog 111 #[.pointer (some ⟨g, 0, none⟩), .slice (some ⟨b, 0, none⟩) l.length c] w (DrawsOf w g cv (m + 2) l) := by
  have HC := Lib.hid hcell
  clear hcell
  generalize hnn : l.length = n at *
  have HN := Lib.hid hnn
  clear hnn
  go_enter Tryd.func111, Tryd.ntmps111
  go_wp2_with fail
  refine (pick_any g cv m n _ hc hm).mono ?_
  rintro e w1 ⟨x, rfl, x0, x1, hc1, k1⟩
  have hxn : x < n := by
    unfold pickHi at x1
    split at x1 <;> omega
  clear x1
  obtain ⟨i, rfl⟩ := Int.eq_ofNat_of_zero_le x0
  have hi : i < l.length := by rw [HN.out]; omega
  have hcx : w1.cell? ⟨b, i, none⟩ = some (.int .i64 l[i]) :=
    (World.cell?_of_block (a := ⟨b, i, none⟩) (k1.block b hbl (by omega))).trans (HC.out i _ (by simp [ints, hi]))
  go_wp2_with fail
  go_ret
  exact ⟨l[i], rfl, List.getElem_mem hi, hc1, k1⟩

/-- a byte is drawn -/
def DrawsU (w : World) (g : Nat) (cv : Value) (n : Nat) (e : Ending) (w' : World) : Prop := ∃ x : UInt8, e = .returned (.int .u8 (x.toNat : Int)) ∧ CurAt w' g cv n ∧ TurnIn g (g + 1) w w'
theorem to_byte (r : Int) : r % 256 = ((UInt8.ofNat (r % 256).toNat).toNat : Int) := by
  rw [UInt8.toNat_ofNat']; omega

set_option maxHeartbeats 1000000 in
theorem byte_any (g : Nat) (cv : Value) (m : Nat) (w : World) (hc : CurAt w g cv m) (hm : m ≤ 10000000000) :
    Calls Tryd.prog 109 #[.pointer (some ⟨g, 0, none⟩)] w (DrawsU w g cv (m + 4)) := by
  go_enter Tryd.func109, Tryd.ntmps109
  go_wp2_with fail
  refine (one_any g cv m 5 _ hc (by omega)).mono ?_
  rintro e w1 ⟨b, rfl, hc1, k1⟩
  have hg1 := hc1.lt
  cases b
  · go_wp2_with fail
    refine (pick_any g cv (m + 2) 256 _ hc1 (by omega)).mono ?_
    rintro e w2 ⟨r, rfl, r0, r1, hc2, k2⟩
    clear r1
    go_wp2_with fail
    go_ret
    exact ⟨_, by rw [← to_byte r]; rfl, hc2, turn_trans k1 k2 (by omega)⟩
  · go_wp2_with fail
    have k2 := turn_alloc w1 (.cells #[.int .i64 0, .int .i64 1, .int .i64 2, .int .i64 3, .int .i64 255, .int .i64 27] 3)
    refine (among_any g cv (m + 2) w1.heap.size 6 [0, 1, 2, 3, 255, 27] _ (hc1.keep k2 (by omega)) (by omega) (by simp) (by simp) (by simp) (by omega) (by omega) (by simp) ?_).mono ?_
    · intro i u hu
      rw [cell_of_row _ w1.heap.size i _ _ _ (heap_alloc_new w1 _)]
      simpa [ints] using hu
    rintro e w3 ⟨r, rfl, hr, hc3, k3⟩
    clear hr
    go_wp2_with fail
    go_ret
    exact ⟨_, by rw [← to_byte r]; rfl, hc3, turn_trans (turn_trans k1 k2 (by omega)) k3 (by omega)⟩

end Go.Proofs.YtgbhcjfnkjhkiaaDoor

/- Drawn vectors. -/
namespace Go.Proofs.YtgbhcjfnkjhkiaaDoor
open Go.RowKit G294

/-- a new cursor -/
theorem cur_new {w : World} {v : Value} {l : List UInt8} (hv : Seen w v (bys l)) : CurAt (w.alloc (.cells #[v, .int .i64 0, .int .u64 0] 94)) w.heap.size v 0 := by
  obtain ⟨A, c, rfl, hlc, hcm, hx⟩ := hv
  rw [bys_length] at hlc hx ⊢
  refine ⟨0, 0, l, A, c, heap_alloc_new w _, Nat.le_refl _, rfl, hlc, hcm, fun hp => ?_⟩
  obtain ⟨b, off, rfl, hb, hc⟩ := hx hp
  exact ⟨b, off, rfl, hb, fun i u hu => (World.cell?_alloc_lt w _ ⟨b, off + i, none⟩ hb).trans (hc i u hu)⟩

/-- some bytes of a given number are drawn into a new row -/
def DrawsBytes (w : World) (g : Nat) (cv : Value) (m n : Nat) (e : Ending) (w' : World) : Prop :=
  ∃ (v : Value) (l : List UInt8), e = .returned v ∧ l.length = n ∧ w'.ownsRow w.heap.size 5 1 v l.length (bys l) ∧ CurAt w' g cv m ∧ TurnIn g (g + 1) w w'

theorem turn_own {B : Nat} {w w' : World} {e : TypeId} {size n : Nat} {v : Value} {xs : List Value} (hown : w.ownsRow B e size v n xs) (hg : w.grownBy w' v.ownBlock) : TurnIn B w.heap.size w w' :=
  TurnIn.of_grown hg fun g h => hown.lt g h

set_option maxHeartbeats 1000000 in
theorem vector_any (g : Nat) (cv : Value) (m n : Nat) (w : World) (hc : CurAt w g cv m) (hm : m + 4 * n ≤ 1000000000) :
    Calls Tryd.prog 110 #[.pointer (some ⟨g, 0, none⟩), .int .i64 n] w (DrawsBytes w g cv (m + 4 * n) n) := by
  have hgw := hc.lt
  go_enter Tryd.func110, Tryd.ntmps110
  go_wp2_with fail
  go_loopw [1, 5] (fun y o wr => ∃ (k : Nat) (l : List UInt8), k ≤ n ∧ y = .int .i64 k ∧ Hid (l.length + k = n) ∧ wr.ownsRow w.heap.size 5 1 o l.length (bys l) ∧ CurAt wr g cv (m + 4 * (n - k)) ∧ TurnIn g (g + 1) w wr)
    (fun y _ _ => (intOf y).toNat)
  case atStart => exact ⟨n, [], Nat.le_refl _, rfl, by show 0 + n = n; omega, World.ownsRow_nil _ _ _ _, hc.more (by omega), ⟨rfl, rfl, rfl, Nat.le_refl _, fun _ _ _ => rfl⟩⟩
  case round =>
    obtain ⟨k, l, hk, rfl, HL, hown, hcr, kr⟩ := hrel
    have hsr := kr.size
    by_cases hlt : 0 < k
    · go_wp2_with fail
      refine (byte_any g cv _ _ hcr (by omega)).mono ?_
      rintro e w1 ⟨x, rfl, hc1, k1⟩
      have hs1 := k1.size
      have hown1 : w1.ownsRow w.heap.size 5 1 u5 l.length (bys l) := by
        refine ⟨hown.1, ?_⟩
        rcases hown.2 with hn | ⟨g', cap, cur, e1, hbg, hg', rest⟩
        · exact .inl hn
        · refine .inr ⟨g', cap, cur, e1, hbg, ?_, rest⟩
          rw [k1.block g' (Array.getElem?_eq_some_iff.1 hg').1 (by omega)]
          exact hg'
      have hll : l.length ≤ 1000000000 := by have := HL.out; omega
      go_wp2_with (at_builtin; refine wpList_append1 rfl _ _ _ rfl w.heap.size 5 _ _ Tryd.underlying22 infoByte rfl _ l.length _ rfl (hown1.alloc _) w1.heap.size (.int .u8 (x.toNat : Int)) rfl ?c1 rfl ?c2 ?c3 ?c4 ?_)
      case c1 => simp
      case c2 => exact hll
      case c3 => omega
      case c4 => simp; omega
      intro v' w2 hown2 hg2 _
      have ka := turn_alloc w1 (.cells #[.int .u8 (x.toNat : Int)] 5)
      have ko := turn_own (hown1.alloc (.cells #[.int .u8 (x.toNat : Int)] 5)) hg2
      have hc2 := (hc1.keep ka (by omega)).keep ko (by omega)
      have k2 : TurnIn g (g + 1) w w2 := turn_trans (turn_trans (turn_trans kr k1 (by omega)) ka (by omega)) ko (by omega)
      have hown3 : w2.ownsRow w.heap.size 5 1 v' (l ++ [x]).length (bys (l ++ [x])) := by
        rw [bys_append, List.length_append]; exact hown2
      clear hown2 hg2 hown1 ka ko hc1 k1 hown hcr kr
      go_wp2_with fail
      go_roundw
      case rel => exact ⟨k - 1, l ++ [x], by omega, by go_num, by show _ = _; have := HL.out; rw [List.length_append, List.length_singleton]; omega, hown3, hc2.more (by omega), k2⟩
      case measure => simp [intOf]; omega
    · obtain rfl : k = 0 := by omega
      go_wp2_with fail
      go_ret
      exact ⟨_, l, rfl, HL.out, hown, hcr.more (by omega), kr⟩

/-- two drawn vectors -/
def RetVecs (w : World) (e : Ending) (w' : World) : Prop :=
  ∃ (v u : Value) (l m : List UInt8), e = .returned (.tuple #[v, u]) ∧ Seen w' v (bys l) ∧ Seen w' u (bys m) ∧ l.length ≤ 100 ∧ m.length ≤ 100 ∧ TurnIn 0 0 w w'

end Go.Proofs.YtgbhcjfnkjhkiaaDoor

/- The cursor's shares. -/
namespace G294
open Go Go.RowKit
theorem srs_setY (l : List Sr) (i : Nat) (y : UInt8) (h : i < l.length) : (srs l).set (i * 2 + 1) (.int .u8 (y.toNat : Int)) = srs (l.set i (l[i].1, y)) := by
  rw [← srs_set l i (l[i].1, y) h]
  congr 1
  apply List.ext_getElem?
  intro j
  by_cases e : i * 2 = j
  · subst e; rw [List.getElem?_set_self (by simp; omega), srs_no l i h]
  · rw [List.getElem?_set_ne e]
theorem srs_setX (l : List Sr) (x : UInt8) (h : 0 < l.length) : (srs l).set 0 (.int .u8 (x.toNat : Int)) = srs (l.set 0 (x, l[0].2)) := by
  cases l with
  | nil => simp at h
  | cons a l => rfl
theorem own_far {w w' : World} {lo a b n size : Nat} {E : TypeId} {v : Value} {xs : List Value} (h : w.ownsRow lo E size v n xs) (t : TurnIn a b w w') (d : b ≤ lo) : w'.ownsRow lo E size v n xs := owns_turnR h (fun g e => (h.lt g e).2) t (.inr d)
/-- shares that lie in other blocks -/
theorem SeenR.far {w w' w0 : World} {a b lo hi : Nat} {E : TypeId} {v : Value} {l : List Sr} (h : SeenR w v l) (t : TurnIn a b w w') (ho : OwnSr E w0 lo hi v l) (d : b ≤ lo) : SeenR w' v l := by
  obtain ⟨A, c, rfl, h1, h2, h3⟩ := h
  refine ⟨A, c, rfl, h1, h2, fun hn => ?_⟩
  obtain ⟨bb, off, rfl, hb', hc⟩ := h3 hn
  have hlo : lo ≤ bb := by
    rcases ho.1.2 with ⟨e, _⟩ | ⟨g, cap, cur, e, hbg, _⟩
    · simp at e
    · simp only [Value.slice.injEq, Option.some.injEq, Addr.mk.injEq] at e
      omega
  have e := t.block bb hb' (by omega)
  exact ⟨bb, off, rfl, Nat.lt_of_lt_of_le hb' t.size, fun i s hi => ⟨(World.cell?_of_block (a := ⟨bb, off + i * 2, none⟩) e).trans (hc i s hi).1, (World.cell?_of_block (a := ⟨bb, off + i * 2 + 1, none⟩) e).trans (hc i s hi).2⟩⟩
theorem SeenR.far2 {w w' w0 : World} {lo hi D : Nat} {row : Option Nat} {E : TypeId} {v : Value} {l : List Sr} (h : SeenR w v l) (hg : w.grownBy w' row) (ho : OwnSr E w0 lo hi v l) (hr : ∀ g, row = some g → D ≤ g) (hD : hi ≤ D := by omega) : SeenR w' v l := by
  obtain ⟨A, c, rfl, h1, h2, h3⟩ := h
  refine ⟨A, c, rfl, h1, h2, fun hn => ?_⟩
  obtain ⟨bb, off, rfl, hb', hc⟩ := h3 hn
  have hhi : bb < hi := ho.2.2 bb rfl
  have e := hg.block bb hb' (fun e => by have := hr bb e.symm; omega)
  exact ⟨bb, off, rfl, Nat.lt_of_lt_of_le hb' hg.size, fun i s hi => ⟨(World.cell?_of_block (a := ⟨bb, off + i * 2, none⟩) e).trans (hc i s hi).1, (World.cell?_of_block (a := ⟨bb, off + i * 2 + 1, none⟩) e).trans (hc i s hi).2⟩⟩
end G294
namespace Go.Proofs.YtgbhcjfnkjhkiaaDoor
open Go.RowKit G294

theorem pickHi_lt {L : Nat} (h : 1 ≤ L) : pickHi (L : Int) ≤ (L : Int) - 1 := by unfold pickHi; split <;> omega

/-- shares are drawn -/
def DrawsR (w : World) (g : Nat) (cv : Value) (m : Nat) (e : Ending) (w' : World) : Prop := ∃ (v : Value) (l : List Sr), e = .returned v ∧ l.length ≤ 20 ∧ OwnSr 59 w' w.heap.size w'.heap.size v l ∧ CurAt w' g cv m ∧ TurnIn g (g + 1) w w'

set_option maxRecDepth 100000 in
set_option maxHeartbeats 4000000 in
theorem shares_any (g : Nat) (cv : Value) (m : Nat) (w : World) (hc : CurAt w g cv m) (hm : m ≤ 100000) :
    Calls Tryd.prog 119 #[.pointer (some ⟨g, 0, none⟩)] w (DrawsR w g cv (m + 100)) := by
  have hg := hc.lt
  go_enter Tryd.func119, Tryd.ntmps119
  go_wp2_with fail
  refine (byte_any g cv m _ hc (by omega)).mono ?_
  rintro e w1 ⟨sx, rfl, hc1, k1⟩
  have s1 := k1.size
  go_wp2_with fail
  refine (pick_any g cv _ 5 _ hc1 (by omega)).mono ?_
  rintro e w2 ⟨r, rfl, r0, r1, hc2, k2⟩
  have s2 := k2.size
  obtain ⟨r, rfl⟩ := Int.eq_ofNat_of_zero_le r0
  have r4 : r ≤ 4 := by have : pickHi 5 = 4 := rfl; omega
  have kk2 := turn_trans k1 k2 (by omega)
  clear r0 r1 k1 k2 hc hc1
  go_wp2_with fail
  refine (vector_any g cv _ r _ hc2 (by omega)).mono ?_
  rintro e w3 ⟨v3, l3, rfl, hl3, ho3, hc3, k3⟩
  have s3 := k3.size
  have kk3 := turn_trans kk2 k3 (by omega)
  have HV3 := Lib.hid (OwnBytes.of_made ho3)
  clear hl3 ho3 kk2 hc2
  go_wp2_with fail
  refine (pick_any g cv _ 8 _ hc3 (by omega)).mono ?_
  rintro e w4 ⟨q, rfl, q0, q1, hc4, k4⟩
  have s4 := k4.size
  have HV4 := Lib.hid (HV3.out.keep k4 (by omega))
  have kk4 := turn_trans kk3 k4 (by omega)
  have hq7 : q ≤ 7 := by have : pickHi 8 = 7 := rfl; omega
  clear HV3 kk3 k3 k4 q1 hc3
  go_wp2_with fail
  refine (sShareSecret_own sx _ l3 _ _ HV4.out.seen HV4.out.nilOk).mono ?_
  rintro e w5 ⟨v5, rfl, ho5, k5⟩
  have s5 := k5.size
  have hc5 := hc4.keep k5 (by omega)
  have kk5 := turn_trans kk4 k5 (by omega)
  obtain ⟨all, hall⟩ : ∃ all, all = shaR sx l3 (1 + q) := ⟨_, rfl⟩
  rw [← hall] at ho5
  have h20 : all.length ≤ 20 := by rw [hall]; exact shaR_len _ _ _
  have HSA := Lib.hid ho5.seen
  have HOA := Lib.hid ho5
  obtain ⟨A, c, hvv⟩ := ho5.seen.len
  subst hvv
  have hcap : all.length ≤ c ∧ c ≤ 9223372036854775807 := by
    obtain ⟨A', c', e', h1, h2, _⟩ := HSA.out
    simp only [Value.slice.injEq] at e'
    unfold maxLen at h2
    omega
  generalize hnn : all.length = n at *
  have HN := Lib.hid hnn
  clear hnn hall k5 kk4 hc4 HV4 ho5
  obtain ⟨hcap1, hcap2⟩ := hcap
  generalize hD : w5.heap.size = D at *
  have zD : D ≤ w5.heap.size := by omega
  have hgD : g < D := by omega
  clear hD
  go_wp2_with fail
  go_loopw [5, 23] (fun o i wr => ∃ (k : Nat) (v' : Value) (l' : List Sr), k ≤ n ∧ i = .int .i64 k ∧ o = v' ∧ l'.length ≤ k ∧ wr.ownsRow D 59 2 v' l'.length (srs l') ∧ SeenR wr (.slice A n c) all ∧ CurAt wr g cv (m + 30 + 2 * k) ∧ TurnIn g (g + 1) w wr ∧ D ≤ wr.heap.size)
    (fun _ i _ => n - (intOf i).toNat)
  case atStart => exact ⟨0, _, [], Nat.zero_le _, rfl, rfl, Nat.le_refl _, World.ownsRow_nil _ _ _ _, HSA.out, hc5.more (by omega), kk5, zD⟩
  case round =>
    obtain ⟨k, v', l', hk, rfl, hov, hlk, ho, hsa, hcu, kT, zz⟩ := hrel
    replace hov := hov.symm
    subst hov
    clear hc5 kk5 zD
    by_cases hlt : k < n
    · have hki : (k : Int) < (n : Int) := by omega
      have HSR := Lib.hid hsa
      obtain ⟨A', c', e', _, _, hx⟩ := hsa
      simp only [Value.slice.injEq] at e'
      obtain ⟨rfl, hnx, rfl⟩ := e'
      clear hnx
      obtain ⟨b, off, rfl, hbl, hcell⟩ := hx (by rw [HN.out]; omega)
      obtain ⟨⟨x, y⟩, hks⟩ := at_ltR HN.out hlt
      have hc1 := (hcell k _ hks).1
      have hc2 := (hcell k _ hks).2
      simp only at hc1 hc2
      have ta := turn_alloc wr (.cells #[.int .u8 (x.toNat : Int), .int .u8 (y.toNat : Int)] 59)
      have za := World.size_alloc wr (.cells #[.int .u8 (x.toNat : Int), .int .u8 (y.toNat : Int)] 59)
      have hp0 : (wr.alloc (.cells #[.int .u8 (x.toNat : Int), .int .u8 (y.toNat : Int)] 59)).cell? ⟨wr.heap.size, 0, none⟩ = some (.int .u8 (x.toNat : Int)) := by simp
      have hp1 : (wr.alloc (.cells #[.int .u8 (x.toNat : Int), .int .u8 (y.toNat : Int)] 59)).cell? ⟨wr.heap.size, 1, none⟩ = some (.int .u8 (y.toNat : Int)) := by simp
      have hcuA := hcu.keep ta (by omega)
      have HOA2 := Lib.hid (owns_turn0 ho ta)
      have HSB := Lib.hid (HSR.out.below ta.to_below)
      have kTA := turn_trans kT ta (by omega)
      clear hcell hx hks ta hcu ho
      go_wp2_with fail
      generalize wr.alloc (.cells #[.int .u8 (x.toNat : Int), .int .u8 (y.toNat : Int)] 59) = Wa at *
      generalize hBp : wr.heap.size = Bp at *
      clear hBp hc1 hc2
      refine (one_any g cv _ 4 _ hcuA (by omega)).mono ?_
      rintro e w6 ⟨bb, rfl, hc6, k6⟩
      have s6 := k6.size
      have d0 := cell_keepA hp0 (by omega) k6 (by omega)
      have d1 := cell_keepA hp1 (by omega) k6 (by omega)
      have ho6 := own_far HOA2.out k6 (by omega)
      have hs6 : SeenR w6 (.slice (some ⟨b, off, none⟩) n c) all := SeenR.far HSB.out k6 HOA.out (by omega)
      have kT6 := turn_trans kTA k6 (by omega)
      have z6 : D ≤ w6.heap.size := by omega
      clear hcuA kTA k6 hp0 hp1
      cases bb
      · have tb := turn_alloc w6 (.cells #[.int .u8 (x.toNat : Int), .int .u8 (y.toNat : Int)] 59)
        have HO7 := Lib.hid (owns_turn0 ho6 tb)
        have HS7 := Lib.hid (hs6.below tb.to_below)
        have HC7 := Lib.hid (hc6.keep tb (by omega))
        have HK7 : Hid (TurnIn g (g + 1) w _) := turn_trans kT6 tb (by omega)
        have HL := Lib.hid (show (l' ++ [(x, y)]).length ≤ k + 1 by simp; omega)
        have HL1 := Lib.hid (show (l' ++ [(x, y)]).length = l'.length + 1 by simp)
        clear tb ho6 hs6 hc6 kT6
        go_wp2_with (at_builtin; refine wpList_appendR rfl _ _ _ rfl D 59 _ _ Tryd.underlying53 infoShare rfl _ l'.length l' rfl HO7.out w6.heap.size x y rfl (by simp) (by simp) ?b1 (by omega) ?b3 ?_)
        case b1 => omega
        case b3 => simp; omega
        intro v7 w8 ho8 hg8 _
        have t8 := grow_turn HO7.out hg8
        have hc8 := HC7.out.keep t8 (by omega)
        have k8 := turn_trans HK7.out t8 (by omega)
        have hs8 : SeenR w8 (.slice (some ⟨b, off, none⟩) n c) all := SeenR.far2 HS7.out hg8 HOA.out (fun g e => (HO7.out.lt g e).1)
        have z8 : D ≤ w8.heap.size := by have := hg8.size; simp at this; omega
        rw [← HL1.out] at ho8
        clear t8 hg8
        go_wp2_with fail
        go_roundw
        case rel => exact ⟨k + 1, _, _, by omega, by go_num, rfl, HL.out, ho8, hs8, hc8.more (by omega), k8, z8⟩
        case measure => simp [intOf]; omega
      · go_wp2_with fail
        go_roundw
        case rel => exact ⟨k + 1, _, _, by omega, by go_num, rfl, by omega, ho6, hs6, hc6.more (by omega), kT6, z6⟩
        case measure => simp [intOf]; omega
    · obtain rfl : k = n := by omega
      have hki : ¬ (k : Int) < (k : Int) := by omega
      have hcu2 := hcu.more (show m + 30 + 2 * k ≤ m + 70 by omega)
      clear hcu hsa
      by_cases hl0 : l'.length = 0
      · obtain ⟨A2, c2, hv2⟩ : ∃ A2 c2, v' = .slice A2 l'.length c2 := by
          obtain ⟨A2, c2, h⟩ := (OwnSr.seen (hi := wr.heap.size) ⟨ho, Nat.le_refl _, fun g e => (ho.lt g e).2⟩).len
          exact ⟨A2, c2, h⟩
        rw [hl0] at hv2
        subst hv2
        go_wp2_with fail
        go_ret
        exact ⟨_, l', rfl, by omega, ⟨own_base ho (by omega), Nat.le_refl _, fun g e => (ho.lt g e).2⟩, hcu2.more (by omega), kT⟩
      · rcases ho.2 with ⟨_, h0⟩ | ⟨gg, cap, cur, rfl, hbg, _, hnc, hcm, _, _⟩
        · omega
        unfold maxLen at hcm
        have HL20 := Lib.hid (show l'.length ≤ 20 by omega)
        obtain ⟨L, hL⟩ : ∃ L, L = l'.length := ⟨_, rfl⟩
        have HLL : Hid (l'.length = L) := hL.symm
        rw [← hL] at ho hl0 hnc hlk ⊢
        clear hL
        have hL1 : 1 ≤ L := by omega
        have hLi : (0 : Int) < (L : Int) := by omega
        go_wp2_with fail
        refine (one_any g cv _ 5 _ hcu2 (by omega)).mono ?_
        rintro e w6 ⟨b1, rfl, hc6, k6⟩
        have s6 := k6.size
        have ho6 := own_far ho k6 (by omega)
        have kT6 := turn_trans kT k6 (by omega)
        have z6 : D ≤ w6.heap.size := by omega
        clear ho kT k6 hcu2
        have HEND : Hid (∀ (W : World) (l2 : List Sr), l2.length = L → W.ownsRow D 59 2 (.slice (some ⟨gg, 0, none⟩) L cap) L (srs l2) → CurAt W g cv (m + 100) → TurnIn g (g + 1) w W → DrawsR w g cv (m + 100) (.returned (.slice (some ⟨gg, 0, none⟩) L cap)) W) := fun W l2 h1 h2 h3 h4 => ⟨_, l2, rfl, by have := HL20.out; have := HLL.out; omega, ⟨by rw [h1]; exact own_base h2 (by omega), Nat.le_refl _, fun g e => (h2.lt g e).2⟩, h3, h4⟩
        have hL20 : L ≤ 20 := by have := HL20.out; have := HLL.out; omega
        obtain ⟨l2, hl2⟩ : ∃ l2, l2 = l' := ⟨_, rfl⟩
        rw [← hl2] at ho6 HLL
        clear hl2 HL20
        cases b1
        · by_cases hl1 : 1 < L
          · have hl1i : (1 : Int) < (L : Int) := by omega
            go_wp2_with fail
            refine (one_any g cv _ 20 _ hc6 (by omega)).mono ?_
            rintro e w7 ⟨b2, rfl, hc7, k7⟩
            have ho7 := own_far ho6 k7 (by omega)
            have kT7 := turn_trans kT6 k7 (by omega)
            cases b2
            · go_wp2_with fail
              go_ret
              exact HEND.out _ l2 HLL.out ho7 (hc7.more (by omega)) kT7
            · go_wp2_with fail
              refine (pick_any g cv _ 3 _ hc7 (by omega)).mono ?_
              rintro e wA ⟨rA, rfl, rA0, rA1, hcA, kA⟩
              have hoA := own_far ho7 kA (by omega)
              have kTA := turn_trans kT7 kA (by omega)
              obtain ⟨rA, rfl⟩ := Int.eq_ofNat_of_zero_le rA0
              have hrA : rA ≤ 2 := by have : pickHi 3 = 2 := rfl; omega
              have hkA : 0 < l2.length := by rw [HLL.out]; omega
              have hdA : wA.cell? ⟨gg, 0, none⟩ = some (.int .u8 (l2[0].1.toNat : Int)) := by
                have := hoA.cellAt 0 (by omega)
                rw [this]; exact srs_no l2 0 hkA
              have hfA := hoA.frozenAt 0
              have hsA := (hoA.stored 0 (.int .u8 ((UInt8.ofNat rA).toNat : Int))).1
              rw [srs_setX l2 (UInt8.ofNat rA) hkA] at hsA
              have tA := turn_set wA gg 0 (.int .u8 ((UInt8.ofNat rA).toNat : Int))
              have hcAA := hcA.keep tA (by omega)
              have kTAA := turn_trans kTA tA (by omega)
              have HLA := Lib.hid (show (l2.set 0 (UInt8.ofNat rA, l2[0].2)).length = L by rw [List.length_set]; exact HLL.out)
              rw [byte_int rA (by omega)] at hsA hcAA kTAA
              have HSA2 := Lib.hid hsA
              have HCA := Lib.hid hcAA
              have HKA := Lib.hid kTAA
              generalize l2.set 0 (UInt8.ofNat rA, l2[0].2) = lA at *
              generalize l2[0] = oldA at *
              clear hsA hcAA kTAA tA hoA kTA ho7 kT7 hcA hc7 kA k7 rA0 rA1
              go_wp2_with fail
              go_ret
              exact HEND.out _ lA HLA.out HSA2.out (HCA.out.more (by omega)) HKA.out
          · have hl1i : ¬ (1 : Int) < (L : Int) := by omega
            go_wp2_with fail
            go_ret
            exact HEND.out _ l2 HLL.out ho6 (hc6.more (by omega)) kT6
        · go_wp2_with fail
          refine (pick_any g cv _ L _ hc6 (by omega)).mono ?_
          rintro e w8 ⟨r8, rfl, r80, r81, hc8, k8⟩
          obtain ⟨r8, rfl⟩ := Int.eq_ofNat_of_zero_le r80
          have hr8 : r8 < L := by have := pickHi_lt hL1; omega
          have hr8i : (r8 : Int) < (L : Int) := by omega
          have ho8 := own_far ho6 k8 (by omega)
          have kT8 := turn_trans kT6 k8 (by omega)
          clear r80 r81 ho6 kT6 k8 hc6
          go_wp2_with fail
          refine (byte_any g cv _ _ hc8 (by omega)).mono ?_
          rintro e w9 ⟨z, rfl, hc9, k9⟩
          have ho9 := own_far ho8 k9 (by omega)
          have kT9 := turn_trans kT8 k9 (by omega)
          have hkl : r8 < l2.length := by rw [HLL.out]; exact hr8
          have hd1 : w9.cell? ⟨gg, r8 * 2 + 1, none⟩ = some (.int .u8 (l2[r8].2.toNat : Int)) := by rw [ho9.cellAt (r8 * 2 + 1) (by omega), srs_data _ r8 hkl]
          have hf1 := ho9.frozenAt (r8 * 2 + 1)
          have hst := (ho9.stored (r8 * 2 + 1) (.int .u8 (z.toNat : Int))).1
          rw [srs_setY l2 r8 z hkl] at hst
          have tS := turn_set w9 gg (r8 * 2 + 1) (.int .u8 (z.toNat : Int))
          have hcS := hc9.keep tS (by omega)
          have kTS := turn_trans kT9 tS (by omega)
          have HLS := Lib.hid (show (l2.set r8 (l2[r8].1, z)).length = L by rw [List.length_set]; exact HLL.out)
          have HST := Lib.hid hst
          have HKS := Lib.hid kTS
          have HCS := Lib.hid hcS
          generalize l2.set r8 (l2[r8].1, z) = l9 at *
          generalize l2[r8] = old at *
          clear hst tS kTS hcS ho9 kT9 ho8 kT8 hc8 hc9 k9 hkl
          by_cases hl1 : 1 < L
          · have hl1i : (1 : Int) < (L : Int) := by omega
            go_wp2_with fail
            refine (one_any g cv _ 20 _ HCS.out (by omega)).mono ?_
            rintro e w7 ⟨b2, rfl, hc7, k7⟩
            have ho7 := own_far HST.out k7 (by omega)
            have kT7 := turn_trans HKS.out k7 (by omega)
            replace HLL := HLS
            clear HLS HST HKS HCS
            obtain ⟨l2, hl2⟩ : ∃ l2, l2 = l9 := ⟨_, rfl⟩
            rw [← hl2] at ho7 HLL
            clear hl2
            cases b2
            · go_wp2_with fail
              go_ret
              exact HEND.out _ l2 HLL.out ho7 (hc7.more (by omega)) kT7
            · go_wp2_with fail
              refine (pick_any g cv _ 3 _ hc7 (by omega)).mono ?_
              rintro e wA ⟨rA, rfl, rA0, rA1, hcA, kA⟩
              have hoA := own_far ho7 kA (by omega)
              have kTA := turn_trans kT7 kA (by omega)
              obtain ⟨rA, rfl⟩ := Int.eq_ofNat_of_zero_le rA0
              have hrA : rA ≤ 2 := by have : pickHi 3 = 2 := rfl; omega
              have hkA : 0 < l2.length := by rw [HLL.out]; omega
              have hdA : wA.cell? ⟨gg, 0, none⟩ = some (.int .u8 (l2[0].1.toNat : Int)) := by
                have := hoA.cellAt 0 (by omega)
                rw [this]; exact srs_no l2 0 hkA
              have hfA := hoA.frozenAt 0
              have hsA := (hoA.stored 0 (.int .u8 ((UInt8.ofNat rA).toNat : Int))).1
              rw [srs_setX l2 (UInt8.ofNat rA) hkA] at hsA
              have tA := turn_set wA gg 0 (.int .u8 ((UInt8.ofNat rA).toNat : Int))
              have hcAA := hcA.keep tA (by omega)
              have kTAA := turn_trans kTA tA (by omega)
              have HLA := Lib.hid (show (l2.set 0 (UInt8.ofNat rA, l2[0].2)).length = L by rw [List.length_set]; exact HLL.out)
              rw [byte_int rA (by omega)] at hsA hcAA kTAA
              have HSA2 := Lib.hid hsA
              have HCA := Lib.hid hcAA
              have HKA := Lib.hid kTAA
              generalize l2.set 0 (UInt8.ofNat rA, l2[0].2) = lA at *
              generalize l2[0] = oldA at *
              clear hsA hcAA kTAA tA hoA kTA ho7 kT7 hcA hc7 kA k7 rA0 rA1
              go_wp2_with fail
              go_ret
              exact HEND.out _ lA HLA.out HSA2.out (HCA.out.more (by omega)) HKA.out
          · have hl1i : ¬ (1 : Int) < (L : Int) := by omega
            go_wp2_with fail
            go_ret
            exact HEND.out _ l9 HLS.out HST.out (HCS.out.more (by omega)) HKS.out

end Go.Proofs.YtgbhcjfnkjhkiaaDoor

/- Draws of shares, and the laws' sameShares. -/
namespace G294
open Go Go.RowKit
theorem OwnSr.wid {w : World} {E : TypeId} {lo lo' hi : Nat} {v : Value} {l : List Sr} (h : OwnSr E w lo hi v l) (h1 : lo' ≤ lo) : OwnSr E w lo' w.heap.size v l := ⟨own_base h.1 h1, Nat.le_refl _, fun g e => (h.1.lt g e).2⟩
theorem OwnBytes.wid {w : World} {E : TypeId} {lo lo' hi : Nat} {v : Value} {l : List UInt8} (h : OwnBytes E w lo hi v l) (h1 : lo' ≤ lo) : OwnBytes E w lo' w.heap.size v l := ⟨own_base h.1 h1, Nat.le_refl _, fun g e => (h.1.lt g e).2⟩
end G294
namespace Go.Proofs.YtgbhcjfnkjhkiaaDoor
open Go.RowKit G294

def RetShB (w : World) (e : Ending) (w' : World) : Prop := ∃ (v : Value) (l : List Sr) (x : UInt8), e = .returned (.tuple #[v, .int .u8 (x.toNat : Int)]) ∧ l.length ≤ 20 ∧ OwnSr 59 w' w.heap.size w'.heap.size v l ∧ TurnIn 0 0 w w'
def RetShI (w : World) (e : Ending) (w' : World) : Prop := ∃ (v : Value) (l : List Sr) (x : Int), e = .returned (.tuple #[v, .int .i64 x]) ∧ l.length ≤ 20 ∧ OwnSr 59 w' w.heap.size w'.heap.size v l ∧ TurnIn 0 0 w w'
def RetShV (w : World) (e : Ending) (w' : World) : Prop := ∃ (v u : Value) (l : List Sr) (r : List UInt8), e = .returned (.tuple #[v, u]) ∧ l.length ≤ 20 ∧ r.length ≤ 20 ∧ OwnSr 59 w' w.heap.size w'.heap.size v l ∧ OwnBytes 5 w' w.heap.size w'.heap.size u r ∧ TurnIn 0 0 w w'
def RetSh2 (w : World) (e : Ending) (w' : World) : Prop := ∃ (v u : Value) (a b : List Sr), e = .returned (.tuple #[v, u]) ∧ a.length ≤ 20 ∧ b.length ≤ 20 ∧ OwnSr 59 w' w.heap.size w'.heap.size v a ∧ OwnSr 59 w' w.heap.size w'.heap.size u b ∧ TurnIn 0 0 w w'
set_option maxHeartbeats 1000000 in
theorem drawInterpolate_any (v : Value) (l : List UInt8) (w : World) (hv : Seen w v (bys l)) : Calls Tryd.prog 46 #[v] w (RetShB w) := by
  obtain ⟨A, c, hvv⟩ := hv.len
  rw [bys_length] at hvv
  subst hvv
  have hc := cur_new hv
  have k0 := turn_alloc w (.cells #[.slice A l.length c, .int .i64 0, .int .u64 0] 94)
  have s0 := World.size_alloc w (.cells #[.slice A l.length c, .int .i64 0, .int .u64 0] 94)
  go_enter Tryd.func46, Tryd.ntmps46
  go_wp2_with fail
  refine (shares_any _ _ 0 _ hc (by omega)).mono ?_
  rintro e w1 ⟨v1, l1, rfl, hl1, ho1, hc1, k1⟩
  have s1 := k1.size
  have HL1 := Lib.hid hl1
  clear hl1
  go_wp2_with fail
  refine (byte_any _ _ _ _ hc1 (by omega)).mono ?_
  rintro e w2 ⟨x, rfl, hc2, k2⟩
  have o1 := ho1.keep k2 (by omega)
  go_wp2_with fail
  go_ret2
  exact ⟨v1, l1, x, rfl, HL1.out, o1.wid (by omega), turn_trans (turn_trans k0 k1 (by omega)) k2 (by omega)⟩

set_option maxHeartbeats 1000000 in
theorem drawOpenSecret_any (v : Value) (l : List UInt8) (w : World) (hv : Seen w v (bys l)) : Calls Tryd.prog 126 #[v] w (RetShI w) := by
  obtain ⟨A, c, hvv⟩ := hv.len
  rw [bys_length] at hvv
  subst hvv
  have hc := cur_new hv
  have k0 := turn_alloc w (.cells #[.slice A l.length c, .int .i64 0, .int .u64 0] 94)
  have s0 := World.size_alloc w (.cells #[.slice A l.length c, .int .i64 0, .int .u64 0] 94)
  go_enter Tryd.func126, Tryd.ntmps126
  go_wp2_with fail
  refine (shares_any _ _ 0 _ hc (by omega)).mono ?_
  rintro e w1 ⟨v1, l1, rfl, hl1, ho1, hc1, k1⟩
  have s1 := k1.size
  have HL1 := Lib.hid hl1
  clear hl1
  go_wp2_with fail
  refine (pick_any _ _ _ 6 _ hc1 (by omega)).mono ?_
  rintro e w2 ⟨x, rfl, _, _, hc2, k2⟩
  have o1 := ho1.keep k2 (by omega)
  go_wp2_with fail
  go_ret2
  exact ⟨v1, l1, x, rfl, HL1.out, o1.wid (by omega), turn_trans (turn_trans k0 k1 (by omega)) k2 (by omega)⟩

set_option maxHeartbeats 1000000 in
theorem drawIsShared_any (v : Value) (l : List UInt8) (w : World) (hv : Seen w v (bys l)) : Calls Tryd.prog 59 #[v] w (RetShI w) := by
  have HV := Lib.hid hv
  clear hv
  go_enter Tryd.func59, Tryd.ntmps59
  go_wp2_with fail
  refine (drawOpenSecret_any _ l _ HV.out).mono ?_
  rintro e w1 ⟨v1, l1, x, rfl, hl1, ho1, k1⟩
  have HL1 := Lib.hid hl1
  clear hl1
  go_wp2_with fail
  go_ret2
  exact ⟨v1, l1, x, rfl, HL1.out, ho1, k1⟩

set_option maxHeartbeats 1000000 in
theorem drawRefresh_any (v : Value) (l : List UInt8) (w : World) (hv : Seen w v (bys l)) : Calls Tryd.prog 56 #[v] w (RetShV w) := by
  obtain ⟨A, c, hvv⟩ := hv.len
  rw [bys_length] at hvv
  subst hvv
  have hc := cur_new hv
  have k0 := turn_alloc w (.cells #[.slice A l.length c, .int .i64 0, .int .u64 0] 94)
  have s0 := World.size_alloc w (.cells #[.slice A l.length c, .int .i64 0, .int .u64 0] 94)
  go_enter Tryd.func56, Tryd.ntmps56
  go_wp2_with fail
  refine (shares_any _ _ 0 _ hc (by omega)).mono ?_
  rintro e w1 ⟨v1, l1, rfl, hl1, ho1, hc1, k1⟩
  have s1 := k1.size
  have HL1 := Lib.hid hl1
  clear hl1
  go_wp2_with fail
  refine (pick_any _ _ _ 10 _ hc1 (by omega)).mono ?_
  rintro e w2 ⟨x, rfl, x0, x1, hc2, k2⟩
  have s2 := k2.size
  obtain ⟨x, rfl⟩ := Int.eq_ofNat_of_zero_le x0
  have x9 : x ≤ 9 := by have : pickHi 10 = 9 := rfl; omega
  have o1 := ho1.keep k2 (by omega)
  clear x0 x1
  go_wp2_with fail
  refine (vector_any _ _ _ x _ hc2 (by omega)).mono ?_
  rintro e w3 ⟨v3, l3, rfl, hl3, ho3, hc3, k3⟩
  have HL3 := Lib.hid hl3
  have o2 := o1.keep k3 (by omega)
  have o3 := OwnBytes.of_made ho3
  clear hl3
  go_wp2_with fail
  go_ret2
  exact ⟨v1, v3, l1, l3, rfl, HL1.out, by rw [HL3.out]; omega, o2.wid (by omega), o3.wid (by omega), turn_trans (turn_trans (turn_trans k0 k1 (by omega)) k2 (by omega)) k3 (by omega)⟩

set_option maxRecDepth 100000 in
set_option maxHeartbeats 2000000 in
theorem drawAddShares_any (v : Value) (l : List UInt8) (w : World) (hv : Seen w v (bys l)) : Calls Tryd.prog 53 #[v] w (RetSh2 w) := by
  obtain ⟨A, c, hvv⟩ := hv.len
  rw [bys_length] at hvv
  subst hvv
  have hc := cur_new hv
  have k0 := turn_alloc w (.cells #[.slice A l.length c, .int .i64 0, .int .u64 0] 94)
  have s0 := World.size_alloc w (.cells #[.slice A l.length c, .int .i64 0, .int .u64 0] 94)
  go_enter Tryd.func53, Tryd.ntmps53
  go_wp2_with fail
  refine (shares_any _ _ 0 _ hc (by omega)).mono ?_
  rintro e w1 ⟨v1, l1, rfl, hl1, ho1, hc1, k1⟩
  have s1 := k1.size
  have HL1 := Lib.hid hl1
  clear hl1
  go_wp2_with fail
  refine (one_any _ _ _ 6 _ hc1 (by omega)).mono ?_
  rintro e w2 ⟨b, rfl, hc2, k2⟩
  have s2 := k2.size
  have o1 := ho1.keep k2 (by omega)
  have kk := turn_trans (turn_trans k0 k1 (by omega)) k2 (by omega)
  generalize hg0 : w.heap.size = g at *
  have HG := Lib.hid hg0
  clear k0 k1 k2 hc hc1 ho1
  cases b
  · obtain ⟨A1, c1, hv1⟩ := o1.seen.len
    subst hv1
    have ta := turn_alloc w2 (.cells #[] 59)
    have za := World.size_alloc w2 (.cells #[] 59)
    have HEM : Hid ((w2.alloc (.cells #[] 59)).ownsRow w2.heap.size 59 2 (.slice (some ⟨w2.heap.size, 0, none⟩) 0 0) 0 (srs [])) := ⟨rfl, .inr ⟨w2.heap.size, 0, #[], rfl, Nat.le_refl _, heap_alloc_new w2 _, Nat.le_refl _, by unfold maxLen; omega, rfl, rfl⟩⟩
    have HO1 := Lib.hid (o1.keep ta (by omega))
    have HC2 := Lib.hid (hc2.keep ta (by omega))
    have HKK := Lib.hid (turn_trans kk ta (by omega))
    have hgl := hc2.lt
    generalize hn1 : l1.length = n at *
    have HN1 := Lib.hid hn1
    have hn20 : n ≤ 20 := HL1.out
    clear hn1 hc2 o1 kk ta HL1
    go_wp2_with (at_builtin; refine wpList_appendRs rfl _ _ _ rfl w2.heap.size 59 _ _ Tryd.underlying53 infoShare rfl (by omega) _ 0 [] l1 rfl HEM.out _ rfl HO1.out.seen HO1.out.nilOk ?c1 ?c3 ?_)
    case c1 => rw [HN1.out]; omega
    case c3 => simp
    intro v6 w6 ho6 hg6
    try rw [HN1.out] at ho6
    try simp only [Nat.zero_add, List.nil_append] at ho6
    have t6 := grow_turn HEM.out hg6
    have hc6 := HC2.out.keep t6 (by omega)
    have o6 := HO1.out.keep t6 (by omega)
    have k6 := turn_trans HKK.out t6 (by rw [HG.out]; omega)
    obtain ⟨A6, c6, hv6⟩ := (OwnSr.seen (hi := w6.heap.size) (l := l1) (E := 59) (lo := w2.heap.size) ⟨by rw [HN1.out]; exact ho6, Nat.le_refl _, fun g e => (ho6.lt g e).2⟩).len
    rw [HN1.out] at hv6
    subst hv6
    generalize hD : w2.heap.size = D at *
    have z6 : D ≤ w6.heap.size := by have := t6.size; omega
    clear t6 hg6 HEM HO1 HC2 HKK hD za
    go_wp2_with fail
    go_loopw [23] (fun i wr => ∃ (k : Nat) (lb : List Sr), k ≤ n ∧ i = .int .i64 k ∧ lb.length = n ∧ wr.ownsRow D 59 2 (.slice A6 n c6) n (srs lb) ∧ OwnSr 59 wr (g + 1) w1.heap.size (.slice A1 n c1) l1 ∧ CurAt wr g (.slice A l.length c) (102 + 4 * k) ∧ TurnIn 0 0 w wr ∧ D ≤ wr.heap.size)
      (fun i _ => n - (intOf i).toNat)
    case atStart => exact ⟨0, l1, Nat.zero_le _, rfl, HN1.out, ho6, by rw [s0] at o6; exact o6, hc6.more (by omega), k6, z6⟩
    case round =>
      obtain ⟨k, lb, hk, rfl, hlb, hob, hoa, hcu, kT, zT⟩ := hrel
      clear ho6 o6 hc6 k6 z6
      have HLB := Lib.hid hlb
      by_cases hlt : k < n
      · have hki : (k : Int) < (n : Int) := by omega
        rcases hob.2 with ⟨_, h0⟩ | ⟨gg, cap, cur, e6, hbg, _, hnc, hcm, _, _⟩
        · omega
        simp only [Value.slice.injEq] at e6
        obtain ⟨rfl, _, rfl⟩ := e6
        clear hlb
        go_wp2_with fail
        refine (byte_any _ _ _ _ hcu (by omega)).mono ?_
        rintro e w9 ⟨z, rfl, hc9, k9⟩
        have ho9 := own_far hob k9 (by omega)
        have hoa9 := hoa.keep k9 (by omega)
        have kT9 := turn_trans kT k9 (by rw [HG.out]; omega)
        have z9 := k9.size
        have hkl : k < lb.length := by rw [HLB.out]; exact hlt
        have hd1 : w9.cell? ⟨gg, k * 2 + 1, none⟩ = some (.int .u8 (lb[k].2.toNat : Int)) := by rw [ho9.cellAt (k * 2 + 1) (by omega), srs_data _ k hkl]
        have hf1 := ho9.frozenAt (k * 2 + 1)
        have hst := (ho9.stored (k * 2 + 1) (.int .u8 (z.toNat : Int))).1
        rw [srs_setY lb k z hkl] at hst
        have tS := turn_set w9 gg (k * 2 + 1) (.int .u8 (z.toNat : Int))
        have HCS := Lib.hid (hc9.keep tS (by omega))
        have HOA := Lib.hid (hoa9.keep tS (by omega))
        have HKS : Hid (TurnIn 0 0 w _) := turn_trans kT9 tS (by rw [HG.out]; omega)
        have HLS := Lib.hid (show (lb.set k (lb[k].1, z)).length = n by rw [List.length_set]; exact HLB.out)
        have HST := Lib.hid hst
        generalize lb.set k (lb[k].1, z) = l9 at *
        generalize lb[k] = old at *
        clear hst tS ho9 kT9 hoa9 hc9 k9 hob hoa hcu kT hkl
        go_wp2_with fail
        go_roundw
        case rel => exact ⟨k + 1, l9, by omega, by go_num, HLS.out, HST.out, HOA.out, HCS.out.more (by omega), HKS.out, by simp; omega⟩
        case measure => simp [intOf]; omega
      · obtain rfl : k = n := by omega
        have hki : ¬ (k : Int) < (k : Int) := by omega
        clear hlb
        go_wp2_with fail
        go_ret2
        exact ⟨_, _, l1, lb, rfl, by rw [HN1.out]; exact hn20, by rw [HLB.out]; exact hn20, hoa.wid (by rw [HG.out]; omega), ⟨by rw [HLB.out]; exact own_base hob (by rw [HG.out]; omega), Nat.le_refl _, fun g e => (hob.lt g e).2⟩, kT⟩
  · go_wp2_with fail
    refine (shares_any _ _ _ _ hc2 (by omega)).mono ?_
    rintro e w3 ⟨v3, l3, rfl, hl3, ho3, hc3, k3⟩
    have HL3 := Lib.hid hl3
    have o2 := o1.keep k3 (by omega)
    clear hl3
    go_wp2_with fail
    go_ret2
    exact ⟨_, _, l1, l3, rfl, HL1.out, HL3.out, o2.wid (by rw [HG.out]; omega), ho3.wid (by rw [HG.out]; omega), turn_trans kk k3 (by rw [HG.out]; omega)⟩

set_option maxRecDepth 100000 in
set_option maxHeartbeats 1000000 in
theorem sameShares_same (v u : Value) (l : List Sr) (w : World) (hv : SeenR w v l) (hu : SeenR w u l) : Calls Tryd.prog 38 #[v, u] w (RetBool w true) := by
  obtain ⟨A, c, rfl, hlc, hcm, hx⟩ := hv
  obtain ⟨A', c', rfl, hlc', hcm', hx'⟩ := hu
  unfold maxLen at hcm hcm'
  generalize hnn : l.length = n at *
  have HN := Lib.hid hnn
  clear hnn
  have hbn : ((n : Int) != (n : Int)) = false := by simp
  go_enter Tryd.func38, Tryd.ntmps38
  go_wp2_with fail
  go_loopw [13] (fun i wr => ∃ k : Nat, k ≤ n ∧ i = .int .i64 k ∧ Below w.heap.size w wr)
    (fun i _ => n - (intOf i).toNat)
  case atStart => exact ⟨0, Nat.zero_le _, rfl, Below.refl _ _⟩
  case round =>
    obtain ⟨k, hk, rfl, hb⟩ := hrel
    by_cases hlt : k < n
    · obtain ⟨b, off, rfl, hbl, hcell⟩ := hx (by omega)
      obtain ⟨b', off', rfl, hbl', hcell'⟩ := hx' (by omega)
      obtain ⟨⟨no, s⟩, hks⟩ := at_ltR HN.out hlt
      have hc1 := (hb.cell (p := ⟨b, off + k * 2, none⟩) hbl).trans (hcell k _ hks).1
      have hc2 := (hb.cell (p := ⟨b, off + k * 2 + 1, none⟩) hbl).trans (hcell k _ hks).2
      have hd1 := (hb.cell (p := ⟨b', off' + k * 2, none⟩) hbl').trans (hcell' k _ hks).1
      have hd2 := (hb.cell (p := ⟨b', off' + k * 2 + 1, none⟩) hbl').trans (hcell' k _ hks).2
      simp only at hc1 hc2 hd1 hd2
      generalize (no.toNat : Int) = x at *
      generalize (s.toNat : Int) = y at *
      have hki : (k : Int) < (n : Int) := by omega
      clear hcell hcell' hx hx'
      go_wp2_with fail
      go_quiet (fail)
      go_wp2_with fail
      go_roundw
      case rel => exact ⟨k + 1, by omega, by go_num, below_drewN hb _⟩
      case measure => simp [intOf]; omega
    · obtain rfl : k = n := by omega
      have hki : ¬ (k : Int) < (k : Int) := by omega
      go_wp2_with fail
      go_ret
      exact ⟨rfl, TurnIn.of_below hb⟩

end Go.Proofs.YtgbhcjfnkjhkiaaDoor
