/- Chapter 8: the model's generator; syndromes, the program's and the model's. -/
import Derived.Test.YtfglkgeeelapgaaDoorErrW3
import Derived.Test.YtfglkgeeelapgaaDoorPoly2
set_option linter.unusedSimpArgs false
set_option linter.unusedVariables false
namespace G294
open Go Go.RowKit
theorem own_built (w : World) (E : TypeId) (l : List UInt8) (hl : l.length ≤ 1000) : OwnBytes E (w.alloc (.cells (bys l).toArray E)) w.heap.size (w.heap.size + 1) (.slice (some ⟨w.heap.size, 0, none⟩) l.length l.length) l :=
  ⟨⟨by simp, .inr ⟨w.heap.size, l.length, (bys l).toArray, rfl, Nat.le_refl _, heap_alloc_new w _, by simp, by unfold maxLen; omega, by simp, by
    rw [Nat.mul_one]; exact List.take_of_length_le (by simp)⟩⟩, by simp, fun g e => by
    have : w.heap.size = g := Option.some.inj e
    omega⟩
theorem fitW_b {w : List UInt8} {m : Nat} (h1 : 1 ≤ m) (h4 : m ≤ 4) : fitW w (m : Int) = decide (2 * m + 1 ≤ w.length ∧ w.length ≤ 24) := by
  simp only [fitW, errT]
  rw [show decide (1 ≤ (m : Int) ∧ (m : Int) ≤ 4) = true by simp; omega, Bool.true_and, decide_eq_decide]
  omega
theorem fitW_no {w : List UInt8} {t : Int} (h : errT t = false) : fitW w t = false := by simp [fitW, h]
end G294
namespace Go.Proofs.YtfglkgeeelapgaaDoor
open Go.RowKit G294

set_option maxRecDepth 100000 in
set_option maxHeartbeats 4000000 in
theorem l8Generator_own (m : Nat) (w : World) (h1 : 1 ≤ m) (h4 : m ≤ 4) : Calls Tryd.prog 84 #[.int .i64 (m : Int)] w (RetBytes 5 w (genL (2 * m))) := by
  obtain ⟨n, hn⟩ : ∃ n, n = 2 * m := ⟨_, rfl⟩
  have hm2 : 2 * (m : Int) = (n : Int) := by omega
  have hn8 : n ≤ 8 := by omega
  rw [← hn]
  clear hn
  have hob := own_built w 5 (genL 0) (by simp)
  have HOB : Hid (OwnBytes 5 (w.alloc (.cells #[.int .u8 1] 5)) w.heap.size (w.heap.size + 1) (.slice (some ⟨w.heap.size, 0, none⟩) 1 1) (genL 0)) := hob
  have HGL := Lib.hid genL_length
  have HGS : Hid (∀ k, mulR (powB 3 (k + 1)) (genL k) = genL (k + 1)) := fun k => rfl
  clear hob
  go_enter Tryd.func84, Tryd.ntmps84
  go_wp2_with fail
  go_loopw [3, 4] (fun o i wr => ∃ k : Nat, k ≤ n ∧ i = .int .i64 ((k : Int) + 1) ∧ OwnBytes 5 wr w.heap.size wr.heap.size o (genL k) ∧ Below w.heap.size w wr)
    (fun _ i _ => n + 1 - (intOf i).toNat)
  case atStart => exact ⟨0, Nat.zero_le _, rfl, HOB.out.wider (Nat.le_refl _) (by simp) (Nat.le_refl _), (Below.refl _ _).alloc (Nat.le_refl _) _⟩
  case round =>
    obtain ⟨k, hk, rfl, ho, hb⟩ := hrel
    by_cases hlt : k < n
    · have hki : (k : Int) + 1 ≤ (n : Int) := by omega
      obtain ⟨g, cp, rfl, hg1, hg2, hcp1, hcp2⟩ := ho.slice (by rw [HGL.out]; omega)
      rw [HGL.out] at ho ⊢
      unfold maxLen at hcp2
      have HP : Hid (Calls Tryd.prog 52 #[.int .u8 3, .int .i64 ((k : Int) + 1)] wr fun e w' => e = .returned (.int .u8 ((powB 3 (k + 1)).toNat : Int)) ∧ wr = w') := l1Pow3 (k + 1) wr (by omega)
      have ta := turn_alloc wr (.cells #[.int .u8 ((powB 3 (k + 1)).toNat : Int), .int .u8 1] 5)
      have za := World.size_alloc wr (.cells #[.int .u8 ((powB 3 (k + 1)).toNat : Int), .int .u8 1] 5)
      have HM := Lib.hid (l8Mul_own (.slice (some ⟨g, 0, none⟩) (k + 1) cp) (genL k) wr.heap.size (powB 3 (k + 1)) (wr.alloc (.cells #[.int .u8 ((powB 3 (k + 1)).toNat : Int), .int .u8 1] 5)) (ho.seen.touch ta) (by rw [HGL.out]; omega) (by rw [HGL.out]; omega) (by rw [za]; omega) (by simp) (by simp))
      have hsz := hb.size
      have HBA : Hid (Below w.heap.size w (wr.alloc (.cells #[.int .u8 ((powB 3 (k + 1)).toNat : Int), .int .u8 1] 5))) := hb.alloc hb.size _
      clear ho ta za
      go_wp2_with fail
      refine HP.out.mono ?_
      rintro e w' ⟨rfl, rfl⟩
      go_wp2_with fail
      refine HM.out.mono ?_
      rintro e w5 ⟨v5, rfl, o5, k5⟩
      rw [HGS.out] at o5
      have hb5 := k5.base HBA.out (by simp; omega) (by omega)
      have o5' := o5.wider (lo' := w.heap.size) (hi' := w5.heap.size) (by simp; omega) (Nat.le_refl _) (Nat.le_refl _)
      clear o5 k5
      go_wp2_with fail
      go_roundw
      case rel => exact ⟨k + 1, by omega, by go_num, o5', hb5⟩
      case measure => simp [intOf]; omega
    · obtain rfl : k = n := by omega
      have hki : ¬ (k : Int) + 1 ≤ (k : Int) := by omega
      go_wp2_with fail
      go_ret
      exact ⟨_, rfl, ho, TurnIn.of_below hb⟩

set_option maxHeartbeats 1000000 in
theorem sGeneratorOf_own (t : Int) (w : World) : Calls Tryd.prog 30 #[.int .i64 t] w (RetBytesOk 5 w (genR t) (errT t)) := by
  by_cases he : errT t = true
  · obtain ⟨m, rfl, h1, h4⟩ := errT_b he
    have HR : Hid (genR (m : Int) = genL (2 * m)) := by show _ = _; unfold genR; rw [if_pos he]; simp
    have HE := Lib.hid he
    clear he
    go_enter Tryd.func30, Tryd.ntmps30
    go_wp2_with fail
    refine (l8T_any _ _).mono ?_
    rintro e w' ⟨rfl, rfl⟩
    rw [HE.out]
    go_wp2_with fail
    refine (l8Generator_own m _ h1 h4).mono ?_
    rintro e w1 ⟨v1, rfl, o1, k1⟩
    go_wp2_with fail
    go_ret2
    exact ⟨v1, by rw [HE.out]; rfl, by rw [HR.out]; exact o1, k1⟩
  · have HE : Hid (errT t = false) := by show _ = _; simpa using he
    have HR : Hid (genR t = []) := if_neg he
    clear he
    go_enter Tryd.func30, Tryd.ntmps30
    go_wp2_with fail
    refine (l8T_any _ _).mono ?_
    rintro e w' ⟨rfl, rfl⟩
    rw [HE.out]
    go_wp2_with fail
    go_ret2
    exact ⟨.slice none 0 0, by rw [HE.out]; rfl, by rw [HR.out]; exact OwnBytes.nil _ _ _, TurnIn.refl _⟩

set_option maxRecDepth 100000 in
set_option maxHeartbeats 4000000 in
theorem syndromesOf_own (v : Value) (l : List UInt8) (t : Int) (w : World) (hv : Seen w v (bys l)) (ht : Tab w) (h0 : 2 < w.heap.size) :
    Calls Tryd.prog 39 #[v, .int .i64 t] w (RetBytesOk 5 w (synR l t) (fitW l t)) := by
  have hv0 := hv
  obtain ⟨A, c, rfl, hlc, hcm, _⟩ := hv
  rw [bys_length] at hlc hv0
  simp only [bys_length]
  unfold maxLen at hcm
  have HV := Lib.hid hv0
  have HT := Lib.hid ht
  clear hv0 ht
  by_cases he : errT t = true
  · obtain ⟨m, rfl, h1, h4⟩ := errT_b he
    have HE := Lib.hid he
    clear he
    have HF : Hid (fitW l (m : Int) = sizB m l.length) := fitW_b h1 h4
    have HLN : Hid (l.length ≤ 24 → fitW l (m : Int) = true → l.length ≤ 1000) := fun h _ => by omega
    by_cases hf : fitW l (m : Int) = true
    · have HR : Hid (synR l (m : Int) = synL l (2 * m)) := by show _ = _; rw [synR_yes hf]; simp
      have hl24 : l.length ≤ 24 := by simp only [fitW, Bool.and_eq_true, decide_eq_true_eq] at hf; omega
      have HFT := Lib.hid hf
      have HSB : Hid (sizB m l.length = true) := by show _ = _; rw [← HF.out]; exact hf
      clear hf
      obtain ⟨n, hn⟩ : ∃ n, n = 2 * m := ⟨_, rfl⟩
      have hn1 : 1 ≤ n := by omega
      have hn8 : n ≤ 8 := by omega
      have HRT : Hid (∀ W : World, Tab W → 2 < W.heap.size → Calls Tryd.prog 86 #[.int .i64 (m : Int)] W (RetBytes 5 W (rootsL n))) := fun W h h' => by rw [hn]; exact rootsOf_own m W h1 h4 h h'
      rw [← hn] at HR
      clear hn
      have HML : Hid (∀ F : Nat → UInt8, (mkRow n F).length = n) := fun F => by simp
      have HRG : Hid (∀ k, k < n → (rootsL n).getD k 0 = powB 3 (k + 1)) := fun k hk => by simp [rootsL, mkRow, List.getD, hk]
      have HMG : Hid (∀ (F : Nat → UInt8) k, k < n → (mkRow n F).getD k 0 = F k) := fun F k hk => mkRow_getD n F k hk
      have HLV : Hid (∀ W : World, Seen W (.slice A l.length c) (bys l) → ∀ x : UInt8, Tab W → 2 < W.heap.size → Calls Tryd.prog 96 #[.slice A l.length c, .int .u8 (x.toNat : Int)] W (RetByte W (hor x l))) := fun W h x h' h'' => valueAt_own _ l x W h (by omega) h' h''
      generalize hll : l.length = q at *
      clear hll
      go_enter Tryd.func39, Tryd.ntmps39
      go_wp2_with fail
      refine (goodWrong_any _ _).mono ?_
      rintro e w' ⟨rfl, rfl⟩
      rw [HE.out]
      go_wp2_with fail
      refine (goodWordSize_any q m _ (by omega) (by omega)).mono ?_
      rintro e w' ⟨rfl, rfl⟩
      rw [HSB.out]
      go_wp2_with fail
      refine (HRT.out _ HT.out h0).mono ?_
      rintro e w1 ⟨v1, rfl, o1, k1⟩
      have o1' : OwnBytes 5 w1 w.heap.size w1.heap.size v1 (mkRow n (fun p => if p < 0 then hor (powB 3 (p + 1)) l else powB 3 (p + 1))) := by
        have : rootsL n = mkRow n (fun p => if p < 0 then hor (powB 3 (p + 1)) l else powB 3 (p + 1)) := mkRow_congr fun p _ => by rw [if_neg (by omega)]
        rw [← this]; exact o1
      have hb1 := k1.to_below
      have z1 := k1.size
      obtain ⟨g, cp, rfl, hg1, hg2, hcp1, hcp2⟩ := o1'.slice (by rw [HML.out]; omega)
      rw [HML.out] at o1' ⊢
      unfold maxLen at hcp2
      clear o1 k1 hcp1
      go_wp2_with fail
      go_loopw [23] (fun i wr => ∃ k : Nat, k ≤ n ∧ i = .int .i64 k ∧ OwnBytes 5 wr w.heap.size w1.heap.size (.slice (some ⟨g, 0, none⟩) n cp) (mkRow n (fun p => if p < k then hor (powB 3 (p + 1)) l else powB 3 (p + 1))) ∧ Below w.heap.size w wr ∧ w1.heap.size ≤ wr.heap.size)
        (fun i _ => n - (intOf i).toNat)
      case atStart => exact ⟨0, Nat.zero_le _, rfl, o1', hb1, Nat.le_refl _⟩
      case round =>
        obtain ⟨k, hk, rfl, ho, hb, hz⟩ := hrel
        clear o1' hb1
        by_cases hlt : k < n
        · have hki : (k : Int) < (n : Int) := by omega
          have hcx := ho.cellAt (k := k) (by rw [HML.out]; exact hlt)
          rw [HMG.out _ k hlt, if_neg (by omega)] at hcx
          have HCV := Lib.hid (HLV.out wr (HV.out.below hb) (powB 3 (k + 1)) (HT.out.below hb h0) (by omega))
          have HO := Lib.hid ho
          clear ho
          go_wp2_with fail
          refine HCV.out.mono ?_
          rintro e w5 ⟨rfl, k5⟩
          have z5 := k5.size
          have ho5 := HO.out.keep k5 (by omega)
          have hc5 := ho5.cellAt (k := k) (by rw [HML.out]; exact hlt)
          have hf5 := ho5.frozenAt k
          obtain ⟨hs5, ts5⟩ := ho5.setB (HML.out _).symm k (hor (powB 3 (k + 1)) l)
          have hs6 : OwnBytes 5 (w5.setCell ⟨g, k, none⟩ (.int .u8 ((hor (powB 3 (k + 1)) l).toNat : Int))) w.heap.size w1.heap.size (.slice (some ⟨g, 0, none⟩) n cp) (mkRow n (fun p => if p < k + 1 then hor (powB 3 (p + 1)) l else powB 3 (p + 1))) := by
            have e : (mkRow n (fun p => if p < k then hor (powB 3 (p + 1)) l else powB 3 (p + 1))).set k (hor (powB 3 (k + 1)) l) = mkRow n (fun p => if p < k + 1 then hor (powB 3 (p + 1)) l else powB 3 (p + 1)) := by
              rw [mkRow_set]
              refine mkRow_congr fun p _ => ?_
              by_cases hp : p = k
              · subst hp; simp
              · by_cases hp2 : p < k
                · simp [hp, hp2, show p < k + 1 by omega]
                · simp [hp, hp2, show ¬ p < k + 1 by omega]
            rw [← e]; exact hs5
          have hb6 : Below w.heap.size w (w5.setCell ⟨g, k, none⟩ (.int .u8 ((hor (powB 3 (k + 1)) l).toNat : Int))) := ts5.base (k5.base hb (by omega) (by omega)) (by omega) (by omega)
          have HS6 := Lib.hid hs6
          have HB6 := Lib.hid hb6
          clear hs5 hs6 ts5 hb6 ho5
          go_wp2_with fail
          go_roundw
          case rel => exact ⟨k + 1, by omega, by go_num, HS6.out, HB6.out, by simp; omega⟩
          case measure => simp [intOf]; omega
        · obtain rfl : k = n := by omega
          have hki : ¬ (k : Int) < (k : Int) := by omega
          have e : mkRow k (fun p => if p < k then hor (powB 3 (p + 1)) l else powB 3 (p + 1)) = synL l k := mkRow_congr fun p hp => by rw [if_pos hp]
          rw [e] at ho
          clear e
          go_wp2_with fail
          go_ret2
          exact ⟨_, by rw [HFT.out]; rfl, by rw [HR.out]; exact ho.wider (Nat.le_refl _) hz (Nat.le_refl _), TurnIn.of_below hb⟩
    · have HFT : Hid (fitW l (m : Int) = false) := by show _ = _; simpa using hf
      have HR : Hid (synR l (m : Int) = []) := synR_no HFT.out
      have HSB : Hid (sizB m l.length = false) := by show _ = _; rw [← HF.out]; exact HFT.out
      clear hf
      have hlm : l.length ≤ 9223372036854775807 := by omega
      generalize hll : l.length = q at *
      clear hll
      go_enter Tryd.func39, Tryd.ntmps39
      go_wp2_with fail
      refine (goodWrong_any _ _).mono ?_
      rintro e w' ⟨rfl, rfl⟩
      rw [HE.out]
      go_wp2_with fail
      refine (goodWordSize_any q m _ (by omega) (by omega)).mono ?_
      rintro e w' ⟨rfl, rfl⟩
      rw [HSB.out]
      go_wp2_with fail
      go_ret2
      exact ⟨.slice none 0 0, by rw [HFT.out]; rfl, by rw [HR.out]; exact OwnBytes.nil _ _ _, TurnIn.refl _⟩
  · have HE : Hid (errT t = false) := by show _ = _; simpa using he
    have HFT : Hid (fitW l t = false) := fitW_no HE.out
    have HR : Hid (synR l t = []) := synR_no HFT.out
    clear he
    generalize hll : l.length = q at *
    clear hll
    go_enter Tryd.func39, Tryd.ntmps39
    go_wp2_with fail
    refine (goodWrong_any _ _).mono ?_
    rintro e w' ⟨rfl, rfl⟩
    rw [HE.out]
    go_wp2_with fail
    go_ret2
    exact ⟨.slice none 0 0, by rw [HFT.out]; rfl, by rw [HR.out]; exact OwnBytes.nil _ _ _, TurnIn.refl _⟩

end Go.Proofs.YtfglkgeeelapgaaDoor
