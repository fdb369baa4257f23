/- The cursor's shares. -/
import Derived.Test.YtgbhcjfnkjhkiaaDoorShaSec
import Derived.Test.YtgbhcjfnkjhkiaaDoorCurVec
import Derived.Test.YtgbhcjfnkjhkiaaDoorArrMem
set_option linter.unusedSimpArgs false
set_option linter.unusedVariables false
namespace G294
open Go Go.RowKit
theorem srs_setY (l : List Sr) (i : Nat) (y : UInt8) (h : i < l.length) : (srs l).set (i * 2 + 1) (.int .u8 (y.toNat : Int)) = srs (l.set i (l[i].1, y)) := by
  rw [← srs_set l i (l[i].1, y) h]
  congr 1
  apply List.ext_getElem?
  intro j
  by_cases e : i * 2 = j
  · subst e; rw [List.getElem?_set_self (by simp; omega), srs_no l i h]
  · rw [List.getElem?_set_ne e]
theorem srs_setX (l : List Sr) (x : UInt8) (h : 0 < l.length) : (srs l).set 0 (.int .u8 (x.toNat : Int)) = srs (l.set 0 (x, l[0].2)) := by
  cases l with
  | nil => simp at h
  | cons a l => rfl
theorem own_far {w w' : World} {lo a b n size : Nat} {E : TypeId} {v : Value} {xs : List Value} (h : w.ownsRow lo E size v n xs) (t : TurnIn a b w w') (d : b ≤ lo) : w'.ownsRow lo E size v n xs := owns_turnR h (fun g e => (h.lt g e).2) t (.inr d)
/-- shares that lie in other blocks -/
theorem SeenR.far {w w' w0 : World} {a b lo hi : Nat} {E : TypeId} {v : Value} {l : List Sr} (h : SeenR w v l) (t : TurnIn a b w w') (ho : OwnSr E w0 lo hi v l) (d : b ≤ lo) : SeenR w' v l := by
  obtain ⟨A, c, rfl, h1, h2, h3⟩ := h
  refine ⟨A, c, rfl, h1, h2, fun hn => ?_⟩
  obtain ⟨bb, off, rfl, hb', hc⟩ := h3 hn
  have hlo : lo ≤ bb := by
    rcases ho.1.2 with ⟨e, _⟩ | ⟨g, cap, cur, e, hbg, _⟩
    · simp at e
    · simp only [Value.slice.injEq, Option.some.injEq, Addr.mk.injEq] at e
      omega
  have e := t.block bb hb' (by omega)
  exact ⟨bb, off, rfl, Nat.lt_of_lt_of_le hb' t.size, fun i s hi => ⟨(World.cell?_of_block (a := ⟨bb, off + i * 2, none⟩) e).trans (hc i s hi).1, (World.cell?_of_block (a := ⟨bb, off + i * 2 + 1, none⟩) e).trans (hc i s hi).2⟩⟩
theorem SeenR.far2 {w w' w0 : World} {lo hi D : Nat} {row : Option Nat} {E : TypeId} {v : Value} {l : List Sr} (h : SeenR w v l) (hg : w.grownBy w' row) (ho : OwnSr E w0 lo hi v l) (hr : ∀ g, row = some g → D ≤ g) (hD : hi ≤ D := by omega) : SeenR w' v l := by
  obtain ⟨A, c, rfl, h1, h2, h3⟩ := h
  refine ⟨A, c, rfl, h1, h2, fun hn => ?_⟩
  obtain ⟨bb, off, rfl, hb', hc⟩ := h3 hn
  have hhi : bb < hi := ho.2.2 bb rfl
  have e := hg.block bb hb' (fun e => by have := hr bb e.symm; omega)
  exact ⟨bb, off, rfl, Nat.lt_of_lt_of_le hb' hg.size, fun i s hi => ⟨(World.cell?_of_block (a := ⟨bb, off + i * 2, none⟩) e).trans (hc i s hi).1, (World.cell?_of_block (a := ⟨bb, off + i * 2 + 1, none⟩) e).trans (hc i s hi).2⟩⟩
end G294
namespace Go.Proofs.YtgbhcjfnkjhkiaaDoor
open Go.RowKit G294

theorem pickHi_lt {L : Nat} (h : 1 ≤ L) : pickHi (L : Int) ≤ (L : Int) - 1 := by unfold pickHi; split <;> omega

/-- shares are drawn -/
def DrawsR (w : World) (g : Nat) (cv : Value) (m : Nat) (e : Ending) (w' : World) : Prop := ∃ (v : Value) (l : List Sr), e = .returned v ∧ l.length ≤ 20 ∧ OwnSr 59 w' w.heap.size w'.heap.size v l ∧ CurAt w' g cv m ∧ TurnIn g (g + 1) w w'

set_option maxRecDepth 100000 in
set_option maxHeartbeats 4000000 in
theorem shares_any (g : Nat) (cv : Value) (m : Nat) (w : World) (hc : CurAt w g cv m) (hm : m ≤ 100000) :
    Calls Tryd.prog 119 #[.pointer (some ⟨g, 0, none⟩)] w (DrawsR w g cv (m + 100)) := by
  have hg := hc.lt
  go_enter Tryd.func119, Tryd.ntmps119
  go_wp2_with fail
  refine (byte_any g cv m _ hc (by omega)).mono ?_
  rintro e w1 ⟨sx, rfl, hc1, k1⟩
  have s1 := k1.size
  go_wp2_with fail
  refine (pick_any g cv _ 5 _ hc1 (by omega)).mono ?_
  rintro e w2 ⟨r, rfl, r0, r1, hc2, k2⟩
  have s2 := k2.size
  obtain ⟨r, rfl⟩ := Int.eq_ofNat_of_zero_le r0
  have r4 : r ≤ 4 := by have : pickHi 5 = 4 := rfl; omega
  have kk2 := turn_trans k1 k2 (by omega)
  clear r0 r1 k1 k2 hc hc1
  go_wp2_with fail
  refine (vector_any g cv _ r _ hc2 (by omega)).mono ?_
  rintro e w3 ⟨v3, l3, rfl, hl3, ho3, hc3, k3⟩
  have s3 := k3.size
  have kk3 := turn_trans kk2 k3 (by omega)
  have HV3 := Lib.hid (OwnBytes.of_made ho3)
  clear hl3 ho3 kk2 hc2
  go_wp2_with fail
  refine (pick_any g cv _ 8 _ hc3 (by omega)).mono ?_
  rintro e w4 ⟨q, rfl, q0, q1, hc4, k4⟩
  have s4 := k4.size
  have HV4 := Lib.hid (HV3.out.keep k4 (by omega))
  have kk4 := turn_trans kk3 k4 (by omega)
  have hq7 : q ≤ 7 := by have : pickHi 8 = 7 := rfl; omega
  clear HV3 kk3 k3 k4 q1 hc3
  go_wp2_with fail
  refine (sShareSecret_own sx _ l3 _ _ HV4.out.seen HV4.out.nilOk).mono ?_
  rintro e w5 ⟨v5, rfl, ho5, k5⟩
  have s5 := k5.size
  have hc5 := hc4.keep k5 (by omega)
  have kk5 := turn_trans kk4 k5 (by omega)
  obtain ⟨all, hall⟩ : ∃ all, all = shaR sx l3 (1 + q) := ⟨_, rfl⟩
  rw [← hall] at ho5
  have h20 : all.length ≤ 20 := by rw [hall]; exact shaR_len _ _ _
  have HSA := Lib.hid ho5.seen
  have HOA := Lib.hid ho5
  obtain ⟨A, c, hvv⟩ := ho5.seen.len
  subst hvv
  have hcap : all.length ≤ c ∧ c ≤ 9223372036854775807 := by
    obtain ⟨A', c', e', h1, h2, _⟩ := HSA.out
    simp only [Value.slice.injEq] at e'
    unfold maxLen at h2
    omega
  generalize hnn : all.length = n at *
  have HN := Lib.hid hnn
  clear hnn hall k5 kk4 hc4 HV4 ho5
  obtain ⟨hcap1, hcap2⟩ := hcap
  generalize hD : w5.heap.size = D at *
  have zD : D ≤ w5.heap.size := by omega
  have hgD : g < D := by omega
  clear hD
  go_wp2_with fail
  go_loopw [5, 23] (fun o i wr => ∃ (k : Nat) (v' : Value) (l' : List Sr), k ≤ n ∧ i = .int .i64 k ∧ o = v' ∧ l'.length ≤ k ∧ wr.ownsRow D 59 2 v' l'.length (srs l') ∧ SeenR wr (.slice A n c) all ∧ CurAt wr g cv (m + 30 + 2 * k) ∧ TurnIn g (g + 1) w wr ∧ D ≤ wr.heap.size)
    (fun _ i _ => n - (intOf i).toNat)
  case atStart => exact ⟨0, _, [], Nat.zero_le _, rfl, rfl, Nat.le_refl _, World.ownsRow_nil _ _ _ _, HSA.out, hc5.more (by omega), kk5, zD⟩
  case round =>
    obtain ⟨k, v', l', hk, rfl, hov, hlk, ho, hsa, hcu, kT, zz⟩ := hrel
    replace hov := hov.symm
    subst hov
    clear hc5 kk5 zD
    by_cases hlt : k < n
    · have hki : (k : Int) < (n : Int) := by omega
      have HSR := Lib.hid hsa
      obtain ⟨A', c', e', _, _, hx⟩ := hsa
      simp only [Value.slice.injEq] at e'
      obtain ⟨rfl, hnx, rfl⟩ := e'
      clear hnx
      obtain ⟨b, off, rfl, hbl, hcell⟩ := hx (by rw [HN.out]; omega)
      obtain ⟨⟨x, y⟩, hks⟩ := at_ltR HN.out hlt
      have hc1 := (hcell k _ hks).1
      have hc2 := (hcell k _ hks).2
      simp only at hc1 hc2
      have ta := turn_alloc wr (.cells #[.int .u8 (x.toNat : Int), .int .u8 (y.toNat : Int)] 59)
      have za := World.size_alloc wr (.cells #[.int .u8 (x.toNat : Int), .int .u8 (y.toNat : Int)] 59)
      have hp0 : (wr.alloc (.cells #[.int .u8 (x.toNat : Int), .int .u8 (y.toNat : Int)] 59)).cell? ⟨wr.heap.size, 0, none⟩ = some (.int .u8 (x.toNat : Int)) := by simp
      have hp1 : (wr.alloc (.cells #[.int .u8 (x.toNat : Int), .int .u8 (y.toNat : Int)] 59)).cell? ⟨wr.heap.size, 1, none⟩ = some (.int .u8 (y.toNat : Int)) := by simp
      have hcuA := hcu.keep ta (by omega)
      have HOA2 := Lib.hid (owns_turn0 ho ta)
      have HSB := Lib.hid (HSR.out.below ta.to_below)
      have kTA := turn_trans kT ta (by omega)
      clear hcell hx hks ta hcu ho
      go_wp2_with fail
      generalize wr.alloc (.cells #[.int .u8 (x.toNat : Int), .int .u8 (y.toNat : Int)] 59) = Wa at *
      generalize hBp : wr.heap.size = Bp at *
      clear hBp hc1 hc2
      refine (one_any g cv _ 4 _ hcuA (by omega)).mono ?_
      rintro e w6 ⟨bb, rfl, hc6, k6⟩
      have s6 := k6.size
      have d0 := cell_keepA hp0 (by omega) k6 (by omega)
      have d1 := cell_keepA hp1 (by omega) k6 (by omega)
      have ho6 := own_far HOA2.out k6 (by omega)
      have hs6 : SeenR w6 (.slice (some ⟨b, off, none⟩) n c) all := SeenR.far HSB.out k6 HOA.out (by omega)
      have kT6 := turn_trans kTA k6 (by omega)
      have z6 : D ≤ w6.heap.size := by omega
      clear hcuA kTA k6 hp0 hp1
      cases bb
      · have tb := turn_alloc w6 (.cells #[.int .u8 (x.toNat : Int), .int .u8 (y.toNat : Int)] 59)
        have HO7 := Lib.hid (owns_turn0 ho6 tb)
        have HS7 := Lib.hid (hs6.below tb.to_below)
        have HC7 := Lib.hid (hc6.keep tb (by omega))
        have HK7 : Hid (TurnIn g (g + 1) w _) := turn_trans kT6 tb (by omega)
        have HL := Lib.hid (show (l' ++ [(x, y)]).length ≤ k + 1 by simp; omega)
        have HL1 := Lib.hid (show (l' ++ [(x, y)]).length = l'.length + 1 by simp)
        clear tb ho6 hs6 hc6 kT6
        go_wp2_with (at_builtin; refine wpList_appendR rfl _ _ _ rfl D 59 _ _ Tryd.underlying53 infoShare rfl _ l'.length l' rfl HO7.out w6.heap.size x y rfl (by simp) (by simp) ?b1 (by omega) ?b3 ?_)
        case b1 => omega
        case b3 => simp; omega
        intro v7 w8 ho8 hg8 _
        have t8 := grow_turn HO7.out hg8
        have hc8 := HC7.out.keep t8 (by omega)
        have k8 := turn_trans HK7.out t8 (by omega)
        have hs8 : SeenR w8 (.slice (some ⟨b, off, none⟩) n c) all := SeenR.far2 HS7.out hg8 HOA.out (fun g e => (HO7.out.lt g e).1)
        have z8 : D ≤ w8.heap.size := by have := hg8.size; simp at this; omega
        rw [← HL1.out] at ho8
        clear t8 hg8
        go_wp2_with fail
        go_roundw
        case rel => exact ⟨k + 1, _, _, by omega, by go_num, rfl, HL.out, ho8, hs8, hc8.more (by omega), k8, z8⟩
        case measure => simp [intOf]; omega
      · go_wp2_with fail
        go_roundw
        case rel => exact ⟨k + 1, _, _, by omega, by go_num, rfl, by omega, ho6, hs6, hc6.more (by omega), kT6, z6⟩
        case measure => simp [intOf]; omega
    · obtain rfl : k = n := by omega
      have hki : ¬ (k : Int) < (k : Int) := by omega
      have hcu2 := hcu.more (show m + 30 + 2 * k ≤ m + 70 by omega)
      clear hcu hsa
      by_cases hl0 : l'.length = 0
      · obtain ⟨A2, c2, hv2⟩ : ∃ A2 c2, v' = .slice A2 l'.length c2 := by
          obtain ⟨A2, c2, h⟩ := (OwnSr.seen (hi := wr.heap.size) ⟨ho, Nat.le_refl _, fun g e => (ho.lt g e).2⟩).len
          exact ⟨A2, c2, h⟩
        rw [hl0] at hv2
        subst hv2
        go_wp2_with fail
        go_ret
        exact ⟨_, l', rfl, by omega, ⟨own_base ho (by omega), Nat.le_refl _, fun g e => (ho.lt g e).2⟩, hcu2.more (by omega), kT⟩
      · rcases ho.2 with ⟨_, h0⟩ | ⟨gg, cap, cur, rfl, hbg, _, hnc, hcm, _, _⟩
        · omega
        unfold maxLen at hcm
        have HL20 := Lib.hid (show l'.length ≤ 20 by omega)
        obtain ⟨L, hL⟩ : ∃ L, L = l'.length := ⟨_, rfl⟩
        have HLL : Hid (l'.length = L) := hL.symm
        rw [← hL] at ho hl0 hnc hlk ⊢
        clear hL
        have hL1 : 1 ≤ L := by omega
        have hLi : (0 : Int) < (L : Int) := by omega
        go_wp2_with fail
        refine (one_any g cv _ 5 _ hcu2 (by omega)).mono ?_
        rintro e w6 ⟨b1, rfl, hc6, k6⟩
        have s6 := k6.size
        have ho6 := own_far ho k6 (by omega)
        have kT6 := turn_trans kT k6 (by omega)
        have z6 : D ≤ w6.heap.size := by omega
        clear ho kT k6 hcu2
        have HEND : Hid (∀ (W : World) (l2 : List Sr), l2.length = L → W.ownsRow D 59 2 (.slice (some ⟨gg, 0, none⟩) L cap) L (srs l2) → CurAt W g cv (m + 100) → TurnIn g (g + 1) w W → DrawsR w g cv (m + 100) (.returned (.slice (some ⟨gg, 0, none⟩) L cap)) W) := fun W l2 h1 h2 h3 h4 => ⟨_, l2, rfl, by have := HL20.out; have := HLL.out; omega, ⟨by rw [h1]; exact own_base h2 (by omega), Nat.le_refl _, fun g e => (h2.lt g e).2⟩, h3, h4⟩
        have hL20 : L ≤ 20 := by have := HL20.out; have := HLL.out; omega
        obtain ⟨l2, hl2⟩ : ∃ l2, l2 = l' := ⟨_, rfl⟩
        rw [← hl2] at ho6 HLL
        clear hl2 HL20
        cases b1
        · by_cases hl1 : 1 < L
          · have hl1i : (1 : Int) < (L : Int) := by omega
            go_wp2_with fail
            refine (one_any g cv _ 20 _ hc6 (by omega)).mono ?_
            rintro e w7 ⟨b2, rfl, hc7, k7⟩
            have ho7 := own_far ho6 k7 (by omega)
            have kT7 := turn_trans kT6 k7 (by omega)
            cases b2
            · go_wp2_with fail
              go_ret
              exact HEND.out _ l2 HLL.out ho7 (hc7.more (by omega)) kT7
            · go_wp2_with fail
              refine (pick_any g cv _ 3 _ hc7 (by omega)).mono ?_
              rintro e wA ⟨rA, rfl, rA0, rA1, hcA, kA⟩
              have hoA := own_far ho7 kA (by omega)
              have kTA := turn_trans kT7 kA (by omega)
              obtain ⟨rA, rfl⟩ := Int.eq_ofNat_of_zero_le rA0
              have hrA : rA ≤ 2 := by have : pickHi 3 = 2 := rfl; omega
              have hkA : 0 < l2.length := by rw [HLL.out]; omega
              have hdA : wA.cell? ⟨gg, 0, none⟩ = some (.int .u8 (l2[0].1.toNat : Int)) := by
                have := hoA.cellAt 0 (by omega)
                rw [this]; exact srs_no l2 0 hkA
              have hfA := hoA.frozenAt 0
              have hsA := (hoA.stored 0 (.int .u8 ((UInt8.ofNat rA).toNat : Int))).1
              rw [srs_setX l2 (UInt8.ofNat rA) hkA] at hsA
              have tA := turn_set wA gg 0 (.int .u8 ((UInt8.ofNat rA).toNat : Int))
              have hcAA := hcA.keep tA (by omega)
              have kTAA := turn_trans kTA tA (by omega)
              have HLA := Lib.hid (show (l2.set 0 (UInt8.ofNat rA, l2[0].2)).length = L by rw [List.length_set]; exact HLL.out)
              rw [byte_int rA (by omega)] at hsA hcAA kTAA
              have HSA2 := Lib.hid hsA
              have HCA := Lib.hid hcAA
              have HKA := Lib.hid kTAA
              generalize l2.set 0 (UInt8.ofNat rA, l2[0].2) = lA at *
              generalize l2[0] = oldA at *
              clear hsA hcAA kTAA tA hoA kTA ho7 kT7 hcA hc7 kA k7 rA0 rA1
              go_wp2_with fail
              go_ret
              exact HEND.out _ lA HLA.out HSA2.out (HCA.out.more (by omega)) HKA.out
          · have hl1i : ¬ (1 : Int) < (L : Int) := by omega
            go_wp2_with fail
            go_ret
            exact HEND.out _ l2 HLL.out ho6 (hc6.more (by omega)) kT6
        · go_wp2_with fail
          refine (pick_any g cv _ L _ hc6 (by omega)).mono ?_
          rintro e w8 ⟨r8, rfl, r80, r81, hc8, k8⟩
          obtain ⟨r8, rfl⟩ := Int.eq_ofNat_of_zero_le r80
          have hr8 : r8 < L := by have := pickHi_lt hL1; omega
          have hr8i : (r8 : Int) < (L : Int) := by omega
          have ho8 := own_far ho6 k8 (by omega)
          have kT8 := turn_trans kT6 k8 (by omega)
          clear r80 r81 ho6 kT6 k8 hc6
          go_wp2_with fail
          refine (byte_any g cv _ _ hc8 (by omega)).mono ?_
          rintro e w9 ⟨z, rfl, hc9, k9⟩
          have ho9 := own_far ho8 k9 (by omega)
          have kT9 := turn_trans kT8 k9 (by omega)
          have hkl : r8 < l2.length := by rw [HLL.out]; exact hr8
          have hd1 : w9.cell? ⟨gg, r8 * 2 + 1, none⟩ = some (.int .u8 (l2[r8].2.toNat : Int)) := by rw [ho9.cellAt (r8 * 2 + 1) (by omega), srs_data _ r8 hkl]
          have hf1 := ho9.frozenAt (r8 * 2 + 1)
          have hst := (ho9.stored (r8 * 2 + 1) (.int .u8 (z.toNat : Int))).1
          rw [srs_setY l2 r8 z hkl] at hst
          have tS := turn_set w9 gg (r8 * 2 + 1) (.int .u8 (z.toNat : Int))
          have hcS := hc9.keep tS (by omega)
          have kTS := turn_trans kT9 tS (by omega)
          have HLS := Lib.hid (show (l2.set r8 (l2[r8].1, z)).length = L by rw [List.length_set]; exact HLL.out)
          have HST := Lib.hid hst
          have HKS := Lib.hid kTS
          have HCS := Lib.hid hcS
          generalize l2.set r8 (l2[r8].1, z) = l9 at *
          generalize l2[r8] = old at *
          clear hst tS kTS hcS ho9 kT9 ho8 kT8 hc8 hc9 k9 hkl
          by_cases hl1 : 1 < L
          · have hl1i : (1 : Int) < (L : Int) := by omega
            go_wp2_with fail
            refine (one_any g cv _ 20 _ HCS.out (by omega)).mono ?_
            rintro e w7 ⟨b2, rfl, hc7, k7⟩
            have ho7 := own_far HST.out k7 (by omega)
            have kT7 := turn_trans HKS.out k7 (by omega)
            replace HLL := HLS
            clear HLS HST HKS HCS
            obtain ⟨l2, hl2⟩ : ∃ l2, l2 = l9 := ⟨_, rfl⟩
            rw [← hl2] at ho7 HLL
            clear hl2
            cases b2
            · go_wp2_with fail
              go_ret
              exact HEND.out _ l2 HLL.out ho7 (hc7.more (by omega)) kT7
            · go_wp2_with fail
              refine (pick_any g cv _ 3 _ hc7 (by omega)).mono ?_
              rintro e wA ⟨rA, rfl, rA0, rA1, hcA, kA⟩
              have hoA := own_far ho7 kA (by omega)
              have kTA := turn_trans kT7 kA (by omega)
              obtain ⟨rA, rfl⟩ := Int.eq_ofNat_of_zero_le rA0
              have hrA : rA ≤ 2 := by have : pickHi 3 = 2 := rfl; omega
              have hkA : 0 < l2.length := by rw [HLL.out]; omega
              have hdA : wA.cell? ⟨gg, 0, none⟩ = some (.int .u8 (l2[0].1.toNat : Int)) := by
                have := hoA.cellAt 0 (by omega)
                rw [this]; exact srs_no l2 0 hkA
              have hfA := hoA.frozenAt 0
              have hsA := (hoA.stored 0 (.int .u8 ((UInt8.ofNat rA).toNat : Int))).1
              rw [srs_setX l2 (UInt8.ofNat rA) hkA] at hsA
              have tA := turn_set wA gg 0 (.int .u8 ((UInt8.ofNat rA).toNat : Int))
              have hcAA := hcA.keep tA (by omega)
              have kTAA := turn_trans kTA tA (by omega)
              have HLA := Lib.hid (show (l2.set 0 (UInt8.ofNat rA, l2[0].2)).length = L by rw [List.length_set]; exact HLL.out)
              rw [byte_int rA (by omega)] at hsA hcAA kTAA
              have HSA2 := Lib.hid hsA
              have HCA := Lib.hid hcAA
              have HKA := Lib.hid kTAA
              generalize l2.set 0 (UInt8.ofNat rA, l2[0].2) = lA at *
              generalize l2[0] = oldA at *
              clear hsA hcAA kTAA tA hoA kTA ho7 kT7 hcA hc7 kA k7 rA0 rA1
              go_wp2_with fail
              go_ret
              exact HEND.out _ lA HLA.out HSA2.out (HCA.out.more (by omega)) HKA.out
          · have hl1i : ¬ (1 : Int) < (L : Int) := by omega
            go_wp2_with fail
            go_ret
            exact HEND.out _ l9 HLS.out HST.out (HCS.out.more (by omega)) HKS.out

end Go.Proofs.YtgbhcjfnkjhkiaaDoor
