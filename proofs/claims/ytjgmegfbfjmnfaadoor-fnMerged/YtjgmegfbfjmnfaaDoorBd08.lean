/- Joined texts: FieldBytes, VecScale, FieldOps, Elim, Elim2, SpecReduce, SpecInv. -/
import Derived.Test.YtjgmegfbfjmnfaaDoorBd03
import Derived.Test.YtjgmegfbfjmnfaaDoorBd02
import Derived.Test.YtjgmegfbfjmnfaaDoorBd01
import Derived.Test.YtjgmegfbfjmnfaaDoorBd07
import Derived.Test.YtjgmegfbfjmnfaaDoorBd00
import Derived.BigRegion
import Derived.StillTailTactics
import Derived.Test.YtjgmegfbfjmnfaaDoorBd05
import Derived.Test.YtjgmegfbfjmnfaaDoorBd04
import Derived.RangeFuncBox
import Derived.RangeFuncNested
set_option linter.unusedSimpArgs false
set_option linter.unusedVariables false
/- The contracts of the products, on bytes. -/
namespace Go.Proofs.YtjgmegfbfjmnfaaDoor
open Go.RowKit G294

theorem times_u8 (a b : UInt8) (w : World) (ht : Tab w) :
    Calls Tryd.prog 91 #[.int .u8 (a.toNat : Int), .int .u8 (b.toNat : Int)] w fun e w' => e = .returned (.int .u8 ((gmul a b).toNat : Int)) ∧ w = w' := by
  rw [gmul_toNat]; exact times_any _ _ a.toNat_lt b.toNat_lt w ht

theorem l1Times_u8 (a b : UInt8) (w : World) :
    Calls Tryd.prog 86 #[.int .u8 (a.toNat : Int), .int .u8 (b.toNat : Int)] w fun e w' => e = .returned (.int .u8 ((gmul a b).toNat : Int)) ∧ w = w' := by
  rw [gmul_toNat]; exact l1Times_any _ _ a.toNat_lt b.toNat_lt w

end Go.Proofs.YtjgmegfbfjmnfaaDoor

/- Contracts of ScaleVector, the program's and the model's. -/
namespace Go.Proofs.YtjgmegfbfjmnfaaDoor
open Go.RowKit G294

theorem scaleR_len (a : UInt8) (l : List UInt8) : (scaleR a l).length ≤ 80 := by
  unfold scaleR; split
  · simpa [scaleL]
  · simp

end Go.Proofs.YtjgmegfbfjmnfaaDoor

/- The methods of field bytes. -/
namespace Go.Proofs.YtjgmegfbfjmnfaaDoor
open Go.RowKit G294

set_option maxHeartbeats 400000 in
theorem fbTimes_any (a b : UInt8) (w : World) (ht : Tab w) :
    Calls Tryd.prog 152 #[.int .u8 (a.toNat : Int), .int .u8 (b.toNat : Int)] w fun e w' => e = .returned (.int .u8 ((gmul a b).toNat : Int)) ∧ w = w' := by
  go_enter Tryd.func152, Tryd.ntmps152
  go_wp2_with fail
  refine (times_u8 a b _ ht).mono ?_
  rintro e w' ⟨rfl, rfl⟩
  go_wp2_with fail
  go_ret
  exact ⟨rfl, rfl⟩

set_option maxHeartbeats 400000 in
theorem fbPlus_any (a b : UInt8) (w : World) :
    Calls Tryd.prog 151 #[.int .u8 (a.toNat : Int), .int .u8 (b.toNat : Int)] w fun e w' => e = .returned (.int .u8 ((a ^^^ b).toNat : Int)) ∧ w = w' := by
  have HX := Lib.hid (xor_u8 a b)
  go_enter Tryd.func151, Tryd.ntmps151
  go_wp2_with fail
  go_ret
  exact ⟨by rw [← HX.out]; rfl, rfl⟩

set_option maxHeartbeats 400000 in
theorem fbInverse_any (a : UInt8) (w : World) (ht : Tab w) :
    Calls Tryd.prog 150 #[.int .u8 (a.toNat : Int)] w fun e w' => e = .returned (.int .u8 ((ginv a).toNat : Int)) ∧ w = w' := by
  have HI := Lib.hid (ginv_toNat a)
  go_enter Tryd.func150, Tryd.ntmps150
  go_wp2_with fail
  refine (inverse_any a.toNat a.toNat_lt _ ht).mono ?_
  rintro e w' ⟨rfl, rfl⟩
  go_wp2_with fail
  go_ret
  exact ⟨by rw [HI.out]; rfl, rfl⟩

theorem methTimes (x : Int) (w : World) : (method 283 144 (.int .u8 x) "loop.example/g00294/impl.times").run Tryd.prog w = .ok (152, .int .u8 x) w := by kernel_rfl

theorem methPlus (x : Int) (w : World) : (method 283 144 (.int .u8 x) "loop.example/g00294/impl.plus").run Tryd.prog w = .ok (151, .int .u8 x) w := by kernel_rfl

theorem methInverse (x : Int) (w : World) : (method 283 144 (.int .u8 x) "loop.example/g00294/impl.inverse").run Tryd.prog w = .ok (150, .int .u8 x) w := by kernel_rfl
end Go.Proofs.YtjgmegfbfjmnfaaDoor

/- Elimination in place: pivotBelow, scaleRow, clearColumn, eliminate. -/
namespace Go.Proofs.YtjgmegfbfjmnfaaDoor
open Go.RowKit G294

def pivV (o : Option Nat) : Value := match o with
  | none => .tuple #[.int .i64 0, .bool false]
  | some k => .tuple #[.int .i64 k, .bool true]

set_option maxRecDepth 100000 in
set_option maxHeartbeats 1000000 in
theorem pivotBelow_any (r c a j : Nat) (F : Ents) (v : Value) (w : World) (hs : SeenM w v (mkM r c F)) (hr1 : 1 ≤ r) (hr : r ≤ 1000) (hc : c ≤ 1000) (ha : a ≤ r) (hj : j < c) :
    Calls Tryd.prog 130 #[v, .int .i64 a, .int .i64 j] w fun e w' => e = .returned (pivV (piv F r a j)) ∧ w = w' := by
  have HS := Lib.hid hs
  obtain ⟨A, cp, hvv, _, _⟩ := hs.len
  rw [mkM_length] at hvv
  subst hvv
  clear hs
  go_enter Tryd.func130, Tryd.ntmps130
  go_wp2_with fail
  go_loop [9] (fun i => ∃ k : Nat, a ≤ k ∧ k ≤ r ∧ i = .int .i64 k ∧ Hid (∀ i, a ≤ i → i < k → F i j = 0)) (fun i => r - (intOf i).toNat)
  case atStart => exact ⟨a, Nat.le_refl _, ha, rfl, fun i h1 h2 => by omega⟩
  case round =>
    obtain ⟨k, hak, hk, rfl, HK⟩ := hrel
    by_cases hlt : k < r
    · have hki : (k : Int) < (r : Int) := by omega
      have hji : (j : Int) < (c : Int) := by omega
      obtain ⟨bb, off, cp5, b', off', c', e6, hl5, h5, h6, h7, hl6, h8⟩ := HS.out.cellF k j hlt hj
      simp only [Value.slice.injEq] at e6
      obtain ⟨rfl, z9, rfl⟩ := e6
      clear z9
      unfold maxLen at hl5 hl6
      by_cases h0 : F k j = 0
      · have hb : (((F k j).toNat : Int) != 0) = false := by rw [h0]; rfl
        have HK2 : Hid (∀ i, a ≤ i → i < k + 1 → F i j = 0) := fun i h1 h2 => by
          by_cases e : i = k
          · rw [e]; exact h0
          · exact HK.out i h1 (by omega)
        clear h0
        go_wp2_with fail
        go_round
        case rel => exact ⟨k + 1, by omega, by omega, by go_num, HK2⟩
        case measure => simp [intOf]; omega
      · have hb : (((F k j).toNat : Int) != 0) = true := by
          rw [bne_iff_ne]; intro e
          exact h0 (u8_ext (by simpa using e))
        have HP := Lib.hid (piv_some hak hlt h0 HK.out)
        clear h0
        go_wp2_with fail
        go_ret2
        exact ⟨by rw [HP.out]; rfl, rfl⟩
    · obtain rfl : k = r := by omega
      have hki : ¬ (k : Int) < (k : Int) := by omega
      have HP := Lib.hid (piv_none HK.out)
      go_wp2_with fail
      go_ret2
      exact ⟨by rw [HP.out]; rfl, rfl⟩

/-- row k turns in place -/
def RowTurn (E EE : TypeId) (w : World) (lo hi : Nat) (v : Value) (L : Mat) (vs : List Value) (e : Ending) (w' : World) : Prop := e = .returned (.tuple #[]) ∧ OwnM E EE w' lo hi v L vs ∧ TurnIn lo hi w w'

set_option maxRecDepth 100000 in
set_option maxHeartbeats 1000000 in
theorem scaleRow_any (r c k lo hi : Nat) (F : Ents) (s : UInt8) (v u : Value) (vs : List Value) (w : World) (hM : OwnM 144 155 w lo hi v (mkM r c F) vs) (hk : k < r) (hu : vs[k]? = some u) (hc1 : 1 ≤ c) (hc : c ≤ 1000) (ht : Tab w) (h0 : 0 < lo) :
    Calls Tryd.prog 131 #[u, .int .u8 (s.toNat : Int)] w (RowTurn 144 155 w lo hi v (mkM r c (scF k s F)) vs) := by
  obtain ⟨bb, cp, hu2, e1, e2, e3, e4, e5, hfz, hcell⟩ := hM.rowF k hk hc1
  obtain rfl : u = .slice (some ⟨bb, 0, none⟩) c cp := Option.some.inj (hu.symm.trans hu2)
  have HU := Lib.hid hu
  have HM0 := Lib.hid (hM.congr (L' := mkM r c fun i j => if i = k ∧ j < 0 then gmul s (F k j) else F i j) (mkM_congr fun i j _ _ => by simp))
  have HT := Lib.hid ht
  have hm1 := methTimes
  unfold maxLen at e5
  clear hM hu hu2 hfz hcell ht
  go_enter Tryd.func131, Tryd.ntmps131
  go_wp2_with fail
  go_loopw [7] (fun i wr => ∃ m : Nat, m ≤ c ∧ i = .int .i64 m ∧ Hid (OwnM 144 155 wr lo hi v (mkM r c fun i j => if i = k ∧ j < m then gmul s (F k j) else F i j) vs) ∧ Hid (TurnIn lo hi w wr)) (fun i _ => c - (intOf i).toNat)
  case atStart => exact ⟨0, Nat.zero_le _, rfl, HM0, Lib.hid ⟨rfl, rfl, rfl, Nat.le_refl _, fun _ _ _ => rfl⟩⟩
  case round =>
    obtain ⟨m, hm, rfl, HM, HK⟩ := hrel
    by_cases hlm : m < c
    · have hmi : (m : Int) < (c : Int) := by omega
      obtain ⟨bb', cp', hu2, f1, f2, f3, f4, f5, hfz, hcell⟩ := HM.out.rowF k hk hc1
      obtain ⟨rfl, rfl⟩ : bb = bb' ∧ cp = cp' := by simpa using HU.out.symm.trans hu2
      have hcx := hcell m hlm
      have e : (if k = k ∧ m < m then gmul s (F k m) else F k m) = F k m := if_neg (by omega)
      rw [e] at hcx
      have hfr := hfz m
      have htr : Tab wr := fun i hi => (World.cell?_of_block (HK.out.block 0 (by have := HM0.out.top; omega) (by omega))).trans (HT.out i hi)
      have HTR := Lib.hid htr
      have HM2 := Lib.hid ((HM.out.storeF (j := m) (x := gmul s (F k m)) hk HU.out).congr (L' := mkM r c fun i j => if i = k ∧ j < m + 1 then gmul s (F k j) else F i j) (mkM_congr fun i j _ _ => by
        by_cases a1 : i = k
        · subst a1
          by_cases a2 : j = m
          · subst a2; simp
          · by_cases a3 : j < m
            · simp [a2, a3]; omega
            · simp [a2, a3]; omega
        · simp [a1]))
      have HK2 := Lib.hid (turn_trans HK.out (turn_setCell wr bb m (.int .u8 ((gmul s (F k m)).toNat : Int))) (by omega))
      have HC := Lib.hid (gmul_comm (F k m) s)
      clear hcell hfz hu2 f3 f5 htr e
      go_wp2_with fail
      refine (fbTimes_any (F k m) s _ HTR.out).mono ?_
      rintro e w' ⟨rfl, rfl⟩
      rw [HC.out]
      go_wp2_with fail
      go_roundw
      case rel => exact ⟨m + 1, by omega, by go_num, HM2, HK2⟩
      case measure => simp [intOf]; omega
    · obtain rfl : m = c := by omega
      have hmi : ¬ (m : Int) < (m : Int) := by omega
      go_wp2_with fail
      go_end0
      exact ⟨rfl, HM.out.congr (mkM_congr fun i j _ hj => by
        unfold scF
        by_cases a1 : i = k
        · subst a1; simp [hj]
        · simp [a1]), HK.out⟩

theorem stilly {P : Program} {f : FuncId} {args : Array Value} {w : World} {v : Value} (h : Calls P f args w fun e w' => e = .returned v ∧ w = w') :
    Calls P f args w fun e w' => e = .returned v ∧ w' = w := h.mono fun _ _ ⟨he, hw⟩ => ⟨he, hw.symm⟩

/-- column j cleared in the rows ahead of k and in the first m columns of row k -/
def clK (a j k m : Nat) (F : Ents) : Ents := fun i jj => if i < k ∨ (i = k ∧ jj < m) then clF a (fun i => F i j) F i jj else F i jj

set_option maxRecDepth 100000 in
set_option maxHeartbeats 2000000 in
theorem clearColumn_any (r c a j lo hi : Nat) (F : Ents) (v : Value) (vs : List Value) (w : World) (hM : OwnM 144 155 w lo hi v (mkM r c F) vs) (ha : a < r) (hj : j < c) (hr : r ≤ 1000) (hc : c ≤ 1000) (ht : Tab w) (h0 : 0 < lo) :
    Calls Tryd.prog 132 #[v, .int .i64 a, .int .i64 j] w (RowTurn 144 155 w lo hi v (mkM r c (clF a (fun i => F i j) F)) vs) := by
  obtain ⟨g, cp, rfl, hg1, hg2, hg3, hg4⟩ := hM.sliceF (by omega)
  have HM0 := Lib.hid (hM.congr (L' := mkM r c (clK a j 0 0 F)) (mkM_congr fun i jj _ _ => by simp [clK]))
  have HT := Lib.hid ht
  have hm1 := methTimes
  have hm2 := methPlus
  unfold maxLen at hg4
  clear hM ht
  go_enter Tryd.func132, Tryd.ntmps132
  go_wp2_with fail
  go_loopw [11] (fun i wr => ∃ k : Nat, k ≤ r ∧ i = .int .i64 k ∧ Hid (OwnM 144 155 wr lo hi (.slice (some ⟨g, 0, none⟩) r cp) (mkM r c (clK a j k 0 F)) vs) ∧ Hid (TurnIn lo hi w wr)) (fun i _ => r - (intOf i).toNat)
  case atStart => exact ⟨0, Nat.zero_le _, rfl, HM0, Lib.hid ⟨rfl, rfl, rfl, Nat.le_refl _, fun _ _ _ => rfl⟩⟩
  case round =>
    obtain ⟨k, hk, rfl, HM, HK⟩ := hrel
    by_cases hlt : k < r
    · have hki : (k : Int) < (r : Int) := by omega
      by_cases hka : k = a
      · have hbb : ((k : Int) == (a : Int)) = true := by simp [hka]
        have HM2 := Lib.hid (HM.out.congr (L' := mkM r c (clK a j (k + 1) 0 F)) (mkM_congr fun i jj _ _ => by
          unfold clK
          by_cases a1 : i = k
          · subst a1; simp [clF, hka]
          · by_cases a2 : i < k
            · simp [a2, show i < k + 1 by omega]
            · simp [a1, a2, show ¬ i < k + 1 by omega]))
        clear hka
        go_wp2_with fail
        go_roundw
        case rel => exact ⟨k + 1, by omega, by go_num, HM2, HK⟩
        case measure => simp [intOf]; omega
      · have hbb : ((k : Int) == (a : Int)) = false := by simp; omega
        obtain ⟨bk, ck, huk, k1, k2, k3, k4, k5, kfz, kcell⟩ := HM.out.rowF k hlt (by omega)
        obtain ⟨ba, ca, hua, a1, a2, a3, a4, a5, afz, acell⟩ := HM.out.rowF a ha (by omega)
        have hck := HM.out.cellAt huk
        have hcf := kcell j hj
        have ef : clK a j k 0 F k j = F k j := by simp [clK]
        rw [ef] at hcf
        have hne : bk ≠ ba := fun e => hka ((HM.out.apart a _ ba hua rfl).2 k _ huk (by rw [e]; rfl))
        have HUK := Lib.hid huk
        have HUA := Lib.hid hua
        have n1 : g ≠ bk := fun e => k3 (by rw [e]; rfl)
        have n2 : g ≠ ba := fun e => a3 (by rw [e]; rfl)
        have hji : (j : Int) < (c : Int) := by omega
        unfold maxLen at k5 a5
        have HKA := Lib.hid hka
        clear kcell acell kfz afz huk hua k3 a3 ef hka
        go_wp2_with fail
        go_loopw [29] (fun i wq => ∃ m : Nat, m ≤ c ∧ i = .int .i64 m ∧ Hid (OwnM 144 155 wq lo hi (.slice (some ⟨g, 0, none⟩) r cp) (mkM r c (clK a j k m F)) vs) ∧ Hid (TurnIn lo hi w wq)) (fun i _ => c - (intOf i).toNat)
        case atStart => exact ⟨0, Nat.zero_le _, rfl, HM, HK⟩
        case round =>
          obtain ⟨m, hm, rfl, HM, HK⟩ := hrel
          clear hck hcf
          by_cases hlm : m < c
          · have hmi : (m : Int) < (c : Int) := by omega
            have hk0 : (0 : Int) ≤ (k : Int) := Int.natCast_nonneg _
            have hm0 : (0 : Int) ≤ (m : Int) := Int.natCast_nonneg _
            have ha0 : (0 : Int) ≤ (a : Int) := Int.natCast_nonneg _
            have hai : (a : Int) < (r : Int) := by omega
            obtain ⟨bk', ck', huk, _, _, _, _, _, kfz, kcell⟩ := HM.out.rowF k hlt (by omega)
            obtain ⟨rfl, rfl⟩ : bk = bk' ∧ ck = ck' := by simpa using HUK.out.symm.trans huk
            obtain ⟨ba', ca', hua, _, _, _, _, _, afz, acell⟩ := HM.out.rowF a ha (by omega)
            obtain ⟨rfl, rfl⟩ : ba = ba' ∧ ca = ca' := by simpa using HUA.out.symm.trans hua
            have hck := HM.out.cellAt HUK.out
            have hca := HM.out.cellAt HUA.out
            have hcx := kcell m hlm
            have hcy := acell m hlm
            have hfr := kfz m
            have ex : clK a j k m F k m = F k m := by simp [clK]
            have ey : clK a j k m F a m = F a m := by unfold clK clF; split <;> simp
            rw [ex] at hcx
            rw [ey] at hcy
            have htr : Tab wr := fun i hi => (World.cell?_of_block (HK.out.block 0 (by have := HM0.out.top; omega) (by omega))).trans (HT.out i hi)
            have htd : Tab wr.drew := htr
            have HTR := Lib.hid htd
            obtain ⟨y, hyy⟩ : ∃ y : UInt8, y = F k m ^^^ gmul (F k j) (F a m) := ⟨_, rfl⟩
            have HPL : Hid (∀ W, Calls Tryd.prog 151 #[.int .u8 ((F k m).toNat : Int), .int .u8 ((gmul (F k j) (F a m)).toNat : Int)] W fun e w' => e = .returned (.int .u8 (y.toNat : Int)) ∧ w' = W) := by
              intro W
              rw [hyy]
              exact stilly (fbPlus_any (F k m) (gmul (F k j) (F a m)) W)
            have HM2 := Lib.hid (((HM.out.storeF (j := m) (x := y) hlt HUK.out).congr (L' := mkM r c (clK a j k (m + 1) F)) (mkM_congr fun i jj _ _ => by
              unfold clK
              by_cases b1 : i = k
              · subst b1
                by_cases b2 : jj = m
                · subst b2
                  have : ¬ i = a := HKA.out
                  simp [clF, this, hyy]
                · by_cases b3 : jj < m
                  · simp [b2, b3, show jj < m + 1 by omega]
                  · simp [b2, b3, show ¬ jj < m + 1 by omega]
              · simp [b1])).drewN 1)
            have hk2 := turn_trans HK.out (turn_setCell wr bk m (.int .u8 (y.toNat : Int))) (by omega)
            have HK2 : Hid (TurnIn lo hi w (wr.setCell ⟨bk, m, none⟩ (.int .u8 (y.toNat : Int))).drew) := ⟨hk2.os, hk2.tape, hk2.output, hk2.size, hk2.block⟩
            clear kcell acell kfz afz huk hua ex ey htr htd hk2 hyy
            go_wp2_with fail
            refine wp_region_still_tail 25 (by kernel_rfl) (by kernel_rfl) ?_
            simp only [List.take_succ_cons, List.take_zero, List.drop_succ_cons, List.drop_zero]
            repeat (first | still_step | still_call (stilly (fbTimes_any (F k j) (F a m) _ HTR.out)) | still_call (HPL.out _))
            refine wpStill_nil ?_
            go_wp2_with fail
            go_roundw
            case rel => exact ⟨m + 1, by omega, by go_num, HM2, HK2⟩
            case measure => simp [intOf]; omega
          · obtain rfl : m = c := by omega
            have hmi : ¬ (m : Int) < (m : Int) := by omega
            go_wp2_with fail
            go_roundw
            case rel => exact ⟨k + 1, by omega, by go_num, Lib.hid (HM.out.congr (mkM_congr fun i jj _ hjj => by
              unfold clK
              by_cases b1 : i = k
              · subst b1; simp [hjj]
              · by_cases b2 : i < k
                · simp [b2, show i < k + 1 by omega]
                · simp [b1, b2, show ¬ i < k + 1 by omega])), HK⟩
            case measure => simp [intOf]; omega
    · obtain rfl : k = r := by omega
      have hki : ¬ (k : Int) < (k : Int) := by omega
      go_wp2_with fail
      go_end0
      exact ⟨rfl, HM.out.congr (mkM_congr fun i j hi _ => by simp [clK, hi]), HK.out⟩
end Go.Proofs.YtjgmegfbfjmnfaaDoor

/- eliminate: the rank and the reduced rows. -/
namespace G294
theorem swF_rows {r c a p : Nat} (E : Ents) (ha : a < r) (hp : p < r) : ∀ i, i < r → (mkM r c (swF a p E)).getD i [] = (mkM r c E).getD (sw a p i) [] := by
  intro i hi
  rw [mkM_getD _ _ _ _ hi, mkM_getD _ _ _ _ (sw_lt ha hp hi)]; rfl
theorem op_eq (E : Ents) (a k p : Nat) (i j : Nat) : clF a (fun i => scF a (ginv (E p k)) (swF a p E) i k) (scF a (ginv (E p k)) (swF a p E)) i j = opF (G294.opAt E a k p) E i j := by
  unfold opF G294.opAt clF
  by_cases h : i = a
  · simp [h]
  · simp [h, scF]
end G294
namespace Go.Proofs.YtjgmegfbfjmnfaaDoor
open Go.RowKit G294

def RetElim (E EE : TypeId) (w : World) (lo hi : Nat) (v : Value) (L : Mat) (n : Nat) (e : Ending) (w' : World) : Prop := ∃ vs, e = .returned (.int .i64 n) ∧ OwnM E EE w' lo hi v L vs ∧ TurnIn lo hi w w'

set_option maxRecDepth 100000 in
set_option maxHeartbeats 4000000 in
theorem eliminate_any (r c n lo hi : Nat) (F : Ents) (v : Value) (vs0 : List Value) (w : World) (hM : OwnM 144 155 w lo hi v (mkM r c F) vs0) (hr1 : 1 ≤ r) (hn : n ≤ c) (hr : r ≤ 1000) (hc : c ≤ 1000) (ht : Tab w) (h0 : 0 < lo) :
    Calls Tryd.prog 121 #[v, .int .i64 n] w (RetElim 144 155 w lo hi v (mkM r c (est F r n).1) (est F r n).2) := by
  obtain ⟨g, cp, rfl, hg1, hg2, hg3, hg4⟩ := hM.sliceF (by omega)
  have HM0 := Lib.hid hM
  have HT := Lib.hid ht
  have htop := hM.top
  have hm1 := methInverse
  unfold maxLen at hg4
  clear hM ht
  go_enter Tryd.func121, Tryd.ntmps121
  go_wp2_with fail
  go_loopw [5, 10] (fun q i wr => ∃ (k a : Nat) (E : Ents) (vs : List Value), k ≤ n ∧ a ≤ r ∧ i = .int .i64 k ∧ q = .int .i64 a ∧ Hid (est F r k = (E, a)) ∧ Hid (OwnM 144 155 wr lo hi (.slice (some ⟨g, 0, none⟩) r cp) (mkM r c E) vs) ∧ Hid (TurnIn lo hi w wr)) (fun _ i _ => n - (intOf i).toNat)
  case atStart => exact ⟨0, 0, F, vs0, Nat.zero_le _, Nat.zero_le _, rfl, rfl, rfl, HM0, Lib.hid ⟨rfl, rfl, rfl, Nat.le_refl _, fun _ _ _ => rfl⟩⟩
  case round =>
    obtain ⟨k, a, E, vs, hk, har, rfl, rfl, HE, HM, HK⟩ := hrel
    by_cases hlt : k < n
    · have hki : (k : Int) < (n : Int) := by omega
      have hseen := Lib.hid HM.out.seen
      have htr : Tab wr := fun i hi => (World.cell?_of_block (HK.out.block 0 (by omega) (by omega))).trans (HT.out i hi)
      have HTR := Lib.hid htr
      clear htr
      go_wp2_with fail
      refine (pivotBelow_any r c a k E _ _ hseen.out hr1 hr hc har (by omega)).mono ?_
      rintro e w' ⟨rfl, rfl⟩
      rcases piv_cases E r a k with ⟨hp, _⟩ | ⟨p, hp, hap, hpr, hne, _⟩
      · rw [hp]
        have HE2 : Hid (est F r (k + 1) = (E, a)) := by
          show est F r (k + 1) = (E, a)
          rw [est_none (by rw [HE.out]; exact hp)]; exact HE.out
        clear hp
        unfold pivV
        go_wp2_with fail
        go_roundw
        case rel => exact ⟨k + 1, a, E, vs, by omega, har, by go_num, rfl, HE2, HM, HK⟩
        case measure => simp [intOf]; omega
      · rw [hp]
        have HE2 : Hid (est F r (k + 1) = (opF (G294.opAt E a k p) E, a + 1)) := by
          show est F r (k + 1) = _
          rw [est_some (p := p) (by rw [HE.out]; exact hp), HE.out]
        have har' : a < r := by omega
        obtain ⟨ba, ca, hua, _, _, _, _, _, _, _⟩ := HM.out.rowF a har' (by omega)
        obtain ⟨bp, cpp, hup, _, _, _, _, _, _, _⟩ := HM.out.rowF p hpr (by omega)
        have hca := HM.out.cellAt hua
        have hcp := HM.out.cellAt hup
        have hfa := HM.out.frozenAt a
        have hfp := HM.out.frozenAt p
        have hsw := (HM.out.swap (p := a) (q := p) (by simp) hua hup (L' := mkM r c (swF a p E)) (by simp) (fun i hi => swF_rows E har' hpr i (by simpa using hi)))
        have hrow : wr.ownsRow lo 155 1 (.slice (some ⟨g, 0, none⟩) r cp) r vs := by simpa using HM.out.row
        have hst := (hrow.stored a (.slice (some ⟨bp, 0, none⟩) c cpp)).1
        obtain ⟨z, hz⟩ : ∃ z, (wr.setCell ⟨g, a, none⟩ (.slice (some ⟨bp, 0, none⟩) c cpp)).cell? ⟨g, p, none⟩ = some z := by
          rw [hst.cellAt p (by omega)]
          exact ⟨_, List.getElem?_eq_getElem (by have := hst.1; omega)⟩
        have HSW := Lib.hid hsw
        have ha0 : (0 : Int) ≤ (a : Int) := Int.natCast_nonneg _
        have hai : (a : Int) < (r : Int) := by omega
        have hp0 : (0 : Int) ≤ (p : Int) := Int.natCast_nonneg _
        have hpi : (p : Int) < (r : Int) := by omega
        clear hp hne hsw hrow hst
        unfold pivV
        go_wp2_with fail
        go_region
        have HSW5 := Lib.hid (HSW.out.drewN 1)
        have hK5 : TurnIn lo hi w ((wr.setCell ⟨g, a, none⟩ (.slice (some ⟨bp, 0, none⟩) c cpp)).setCell ⟨g, p, none⟩ (.slice (some ⟨ba, 0, none⟩) c ca)).drew := by
          have t := turn_trans (turn_trans HK.out (turn_setCell wr g a (.slice (some ⟨bp, 0, none⟩) c cpp)) (by omega)) (turn_setCell _ g p (.slice (some ⟨ba, 0, none⟩) c ca)) (by omega)
          exact ⟨t.os, t.tape, t.output, t.size, t.block⟩
        change Hid (OwnM 144 155 ((wr.setCell ⟨g, a, none⟩ (.slice (some ⟨bp, 0, none⟩) c cpp)).setCell ⟨g, p, none⟩ (.slice (some ⟨ba, 0, none⟩) c ca)).drew lo hi (.slice (some ⟨g, 0, none⟩) r cp) (mkM r c (swF a p E)) ((vs.set a (.slice (some ⟨bp, 0, none⟩) c cpp)).set p (.slice (some ⟨ba, 0, none⟩) c ca))) at HSW5
        generalize ((wr.setCell ⟨g, a, none⟩ (.slice (some ⟨bp, 0, none⟩) c cpp)).setCell ⟨g, p, none⟩ (.slice (some ⟨ba, 0, none⟩) c ca)).drew = w5 at *
        generalize (vs.set a (.slice (some ⟨bp, 0, none⟩) c cpp)).set p (.slice (some ⟨ba, 0, none⟩) c ca) = vs5 at *
        have HK5 := Lib.hid hK5
        obtain ⟨b5, c5, hu5, _, _, _, _, e5, _, hcell5⟩ := HSW5.out.rowF a har' (by omega)
        have hc5 := HSW5.out.cellAt hu5
        have hx5 := hcell5 k (by omega)
        have ee : swF a p E a k = E p k := by simp [swF, sw]
        rw [ee] at hx5
        have HU5 := Lib.hid hu5
        have htr5 : Tab w5 := fun i hi => (World.cell?_of_block (HK5.out.block 0 (by omega) (by omega))).trans (HT.out i hi)
        have htd5 : Tab w5.drew := htr5
        have HTR5 := Lib.hid htd5
        have hkc : (k : Int) < (c : Int) := by omega
        have hk0 : (0 : Int) ≤ (k : Int) := Int.natCast_nonneg _
        unfold maxLen at e5
        clear hK5 hcell5 hu5 ee htr5 htd5 hca hcp hfa hfp hz hua hup HSW
        go_wp2_with fail
        refine wp_region_still_tail 13 (by kernel_rfl) (by kernel_rfl) ?_
        simp only [List.take_succ_cons, List.take_zero, List.drop_succ_cons, List.drop_zero]
        repeat (first | still_step | still_call (stilly (fbInverse_any (E p k) _ HTR5.out)))
        refine wpStill_nil ?_
        go_wp2_with fail
        refine (scaleRow_any r c a lo hi (swF a p E) (ginv (E p k)) _ _ vs5 w5.drew (HSW5.out.drewN 1) har' HU5.out (by omega) hc HTR5.out h0).mono ?_
        rintro e w6 ⟨rfl, hM6, hK6⟩
        have hK6' : TurnIn lo hi w w6 := turn_trans HK5.out (⟨hK6.os, hK6.tape, hK6.output, hK6.size, hK6.block⟩ : TurnIn lo hi w5 w6) (by omega)
        have HM6 := Lib.hid hM6
        have HK6 := Lib.hid hK6'
        have htr6 : Tab w6 := fun i hi => (World.cell?_of_block (HK6.out.block 0 (by omega) (by omega))).trans (HT.out i hi)
        have HTR6 := Lib.hid htr6
        clear hM6 hK6 hK6' htr6 hc5 hx5
        go_wp2_with fail
        refine (clearColumn_any r c a k lo hi (scF a (ginv (E p k)) (swF a p E)) _ vs5 w6 HM6.out har' (by omega) hr hc HTR6.out h0).mono ?_
        rintro e w7 ⟨rfl, hM7, hK7⟩
        have HM7 := Lib.hid (hM7.congr (L' := mkM r c (opF (G294.opAt E a k p) E)) (mkM_congr fun i j _ _ => op_eq E a k p i j))
        have HK7 := Lib.hid (turn_trans HK6.out hK7 (by omega))
        clear hM7 hK7
        go_wp2_with fail
        go_roundw
        case rel => exact ⟨k + 1, a + 1, _, vs5, by omega, by omega, by go_num, by go_num, HE2, HM7, HK7⟩
        case measure => simp [intOf]; omega
    · obtain rfl : k = n := by omega
      have hki : ¬ (k : Int) < (k : Int) := by omega
      go_wp2_with fail
      go_ret
      exact ⟨vs, by rw [HE.out]; rfl, by rw [HE.out]; exact HM.out, HK.out⟩
end Go.Proofs.YtjgmegfbfjmnfaaDoor

/- The model's l2Reduce. -/
namespace G294
open Go Go.RowKit
theorem new_cell (w : World) (v : Value) (T : TypeId) : (w.alloc (.cells #[v] T)).cell? ⟨w.heap.size, 0, none⟩ = some v := by simp
theorem new_frozen (w : World) (v : Value) (T : TypeId) : (w.alloc (.cells #[v] T)).frozen? ⟨w.heap.size, 0, none⟩ = false := by simp
theorem four (w : World) (a b c d : Value) (T : TypeId) : (((((w.alloc (.cells #[a] T)).alloc (.cells #[b] T)).alloc (.cells #[c] T)).alloc (.cells #[d] T)).cell? ⟨w.heap.size, 0, none⟩ = some a ∧ ((((w.alloc (.cells #[a] T)).alloc (.cells #[b] T)).alloc (.cells #[c] T)).alloc (.cells #[d] T)).cell? ⟨w.heap.size + 1, 0, none⟩ = some b ∧
    ((((w.alloc (.cells #[a] T)).alloc (.cells #[b] T)).alloc (.cells #[c] T)).alloc (.cells #[d] T)).cell? ⟨w.heap.size + 2, 0, none⟩ = some c ∧ ((((w.alloc (.cells #[a] T)).alloc (.cells #[b] T)).alloc (.cells #[c] T)).alloc (.cells #[d] T)).frozen? ⟨w.heap.size + 2, 0, none⟩ = false ∧
    ((((w.alloc (.cells #[a] T)).alloc (.cells #[b] T)).alloc (.cells #[c] T)).alloc (.cells #[d] T)).cell? ⟨w.heap.size + 3, 0, none⟩ = some d ∧ ((((w.alloc (.cells #[a] T)).alloc (.cells #[b] T)).alloc (.cells #[c] T)).alloc (.cells #[d] T)).frozen? ⟨w.heap.size + 3, 0, none⟩ = false) ∧
    ((((w.alloc (.cells #[a] T)).alloc (.cells #[b] T)).alloc (.cells #[c] T)).alloc (.cells #[d] T)).heap.size = w.heap.size + 4 ∧ TurnIn 0 0 w ((((w.alloc (.cells #[a] T)).alloc (.cells #[b] T)).alloc (.cells #[c] T)).alloc (.cells #[d] T)) := by
  have s1 : (w.alloc (.cells #[a] T)).heap.size = w.heap.size + 1 := by simp
  have s2 : ((w.alloc (.cells #[a] T)).alloc (.cells #[b] T)).heap.size = w.heap.size + 2 := by simp
  have s3 : (((w.alloc (.cells #[a] T)).alloc (.cells #[b] T)).alloc (.cells #[c] T)).heap.size = w.heap.size + 3 := by simp
  have s4 : ((((w.alloc (.cells #[a] T)).alloc (.cells #[b] T)).alloc (.cells #[c] T)).alloc (.cells #[d] T)).heap.size = w.heap.size + 4 := by simp
  have k1 := turn_alloc w (.cells #[a] T)
  have k2 := turn_alloc (w.alloc (.cells #[a] T)) (.cells #[b] T)
  have k3 := turn_alloc ((w.alloc (.cells #[a] T)).alloc (.cells #[b] T)) (.cells #[c] T)
  have k4 := turn_alloc (((w.alloc (.cells #[a] T)).alloc (.cells #[b] T)).alloc (.cells #[c] T)) (.cells #[d] T)
  have c1 := new_cell w a T
  have c2 := new_cell (w.alloc (.cells #[a] T)) b T
  have c3 := new_cell ((w.alloc (.cells #[a] T)).alloc (.cells #[b] T)) c T
  have f3 := new_frozen ((w.alloc (.cells #[a] T)).alloc (.cells #[b] T)) c T
  have c4 := new_cell (((w.alloc (.cells #[a] T)).alloc (.cells #[b] T)).alloc (.cells #[c] T)) d T
  have f4 := new_frozen (((w.alloc (.cells #[a] T)).alloc (.cells #[b] T)).alloc (.cells #[c] T)) d T
  rw [s1] at c2
  rw [s2] at c3 f3
  rw [s3] at c4 f4
  refine ⟨⟨?_, ?_, ?_, ?_, c4, f4⟩, s4, turn_trans (turn_trans (turn_trans k1 k2 (by omega)) k3 (by omega)) k4 (by omega)⟩
  · exact cell_turn k4 (cell_turn k3 (cell_turn k2 c1 (by omega)) (by omega)) (by omega)
  · exact cell_turn k4 (cell_turn k3 c2 (by omega)) (by omega)
  · exact cell_turn k4 c3 (by omega)
  · exact frozen_turn k4 f3 (by omega)
theorem made_row {E : TypeId} {w w' : World} {c : Nat} {f : Nat → UInt8} {v : Value} (ho : w'.ownsRow w.heap.size E 1 v (bys (mkRow c f)).length (bys (mkRow c f))) (hc : 0 < c) : ∃ g cc, v = .slice (some ⟨g, 0, none⟩) c cc ∧ w.heap.size ≤ g ∧ g < w'.heap.size ∧ OwnBytes E w' w.heap.size w'.heap.size (.slice (some ⟨g, 0, none⟩) c cc) (mkRow c f) := by
  have h : OwnBytes E w' w.heap.size w'.heap.size v (mkRow c f) := OwnBytes.of_made (by simpa using ho)
  obtain ⟨g, cc, rfl, h1, h2⟩ := row_own h hc
  exact ⟨g, cc, rfl, h1, h2, h⟩
theorem drew_turn (w : World) : TurnIn 0 0 w w.drew := ⟨rfl, rfl, rfl, Nat.le_refl _, fun _ _ _ => rfl⟩
theorem own_drew {E : TypeId} {w : World} {lo : Nat} {v : Value} {l : List UInt8} (h : OwnBytes E w lo w.heap.size v l) : OwnBytes E w.drew lo w.drew.heap.size v l := h.keep (drew_turn w) (by omega)
def RetReduce (E EE : TypeId) (w : World) (L : Mat) (n : Nat) (e : Ending) (w' : World) : Prop := ∃ (A : Option Addr) (a c : Nat) (vb : Value) (us : List Value), e = .returned (.tuple #[.agg #[.slice A a c], .agg #[vb], .int .i64 n]) ∧ OwnM E EE w' w.heap.size w'.heap.size vb L us ∧ TurnIn 0 0 w w'
end G294
namespace Go.Proofs.YtjgmegfbfjmnfaaDoor
open Go.RowKit G294
end Go.Proofs.YtjgmegfbfjmnfaaDoor

/- The model's l2Inverse. -/
namespace G294
open Go Go.RowKit
theorem sAlloc {w2 W : World} {a : Addr} {x : Value} (h : Below w2.heap.size w2 W ∧ W.cell? a = some x) (ha : a.block < w2.heap.size) (o : Obj) : Below w2.heap.size w2 (W.alloc o) ∧ (W.alloc o).cell? a = some x := by
  have hb := h.1.alloc h.1.size o
  exact ⟨hb, (((Below.refl _ W).alloc (Nat.le_refl _) o).cell (p := a) (Nat.lt_of_lt_of_le ha h.1.size)).trans h.2⟩
theorem sTurn {w2 W W' : World} {a : Addr} {x : Value} (h : Below w2.heap.size w2 W ∧ W.cell? a = some x) (ha : a.block < w2.heap.size) (k : TurnIn 0 0 W W') : Below w2.heap.size w2 W' ∧ W'.cell? a = some x :=
  ⟨k.base h.1 h.1.size (by omega), (k.to_below.cell (p := a) (Nat.lt_of_lt_of_le ha h.1.size)).trans h.2⟩
theorem sSet {w2 W : World} {a : Addr} {x : Value} (h : Below w2.heap.size w2 W ∧ W.cell? a = some x) (ha : a.block < w2.heap.size) {B : Nat} (hB : w2.heap.size ≤ B) (u : Value) : Below w2.heap.size w2 (W.setCell ⟨B, 0, none⟩ u) ∧ (W.setCell ⟨B, 0, none⟩ u).cell? a = some x :=
  ⟨h.1.setCell (p := ⟨B, 0, none⟩) hB u, (World.cell?_setCell_other _ _ _ _ (fun e => by rw [← e] at ha; simp at ha; omega)).trans h.2⟩
theorem natInt_beq (a b : Nat) : ((a : Int) == (b : Int)) = decide (a = b) := by
  by_cases h : a = b
  · subst h; simp
  · have h2 : ((a : Int) == (b : Int)) = false := by rw [beq_eq_false_iff_ne]; omega
    rw [h2]; simp [h]
theorem Boxed.turn {W W' : World} {B : Nat} {T : TypeId} {v : Value} (h : Boxed W B T v) (k : TurnIn 0 0 W W') : Boxed W' B T v := (k.block B h.lt (by omega)).trans h
theorem boxes1 {w w' : World} {v : Value} {T : TypeId} (k : TurnIn 0 0 (w.alloc (.cells #[v] T)) w') : Boxed w' w.heap.size T v := Boxed.turn (Boxed.new w T v) k
theorem boxes2 {w w' : World} {v v' : Value} {T T' : TypeId} (k : TurnIn 0 0 ((w.alloc (.cells #[v] T)).alloc (.cells #[v'] T')) w') : Boxed w' w.heap.size T v ∧ Boxed w' (w.heap.size + 1) T' v' := by
  refine ⟨Boxed.turn ((Boxed.new w T v).alloc _) k, ?_⟩
  have h := Boxed.turn (Boxed.new (w.alloc (.cells #[v] T)) T' v') k
  rwa [World.size_alloc] at h
end G294
namespace Go.Proofs.YtjgmegfbfjmnfaaDoor
open Go.RowKit G294

end Go.Proofs.YtjgmegfbfjmnfaaDoor
