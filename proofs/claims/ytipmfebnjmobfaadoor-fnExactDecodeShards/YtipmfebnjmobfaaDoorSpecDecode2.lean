/- DecodeShards: the model's, and its mathematics. -/
import Derived.Test.YtipmfebnjmobfaaDoorSpecDecode
set_option linter.unusedSimpArgs false
set_option linter.unusedVariables false
namespace G294
open Go Go.RowKit
def lenH (l : List Sh) : Nat := (l.getD 0 (0, [])).2.length
/-- what both check ahead of the inverse -/
def preOk (l : List Sh) (k m : Int) : Bool := shapeOk k m && shardsOk l (k + m) && decide (k ≤ l.length)
def decOk (l : List Sh) (k m : Int) : Bool := preOk l k m && usedOk k.toNat l
def decR (l : List Sh) (k m : Int) : List (List UInt8) := if preOk l k m = true then decY k.toNat (lenH l) l else []
theorem decR_no {l : List Sh} {k m : Int} (h : preOk l k m = false) : decR l k m = [] := if_neg (by rw [h]; simp)
theorem decR_yes {l : List Sh} {k : Nat} {m : Int} (h : preOk l k m = true) : decR l k m = decY k (lenH l) l := by unfold decR; rw [if_pos h]; simp
theorem decOk_no {l : List Sh} {k m : Int} (h : preOk l k m = false) : decOk l k m = false := by unfold decOk; rw [h]; rfl
theorem decOk_yes {l : List Sh} {k : Nat} {m : Int} (h : preOk l k m = true) : decOk l k m = usedOk k l := by unfold decOk; rw [h]; simp
theorem shards_ge {l : List Sh} {n : Int} (h : shardsOk l n = true) : ∀ (i : Nat) (s : Sh), l[i]? = some s → 0 ≤ s.1
  | 0, s, hs => by have := ((shardsOk_iff l n).1 h 0 s hs).1.1; simp [lastNo] at this; omega
  | i + 1, s, hs => by
    have h1 := ((shardsOk_iff l n).1 h (i + 1) s hs).1.1
    have hi : i < l.length := by have := (List.getElem?_eq_some_iff.1 hs).1; omega
    have h2 := shards_ge h i l[i] (List.getElem?_eq_getElem hi)
    rw [lastNo_succ (List.getElem?_eq_getElem hi)] at h1
    omega
theorem shards_no {l : List Sh} {k q : Nat} (h : shardsOk l ((k : Int) + q) = true) : ∀ (i : Nat) (s : Sh), l[i]? = some s → 0 ≤ s.1 ∧ s.1 < ((k + q : Nat) : Int) := fun i s hs => by
  have h1 := ((shardsOk_iff _ _).1 h i s hs).1.2
  have h2 := shards_ge h i s hs
  omega
theorem shards_len {l : List Sh} {n : Int} (h : shardsOk l n = true) : ∀ (i : Nat) (s : Sh), l[i]? = some s → s.2.length = lenH l := fun i s hs => ((shardsOk_iff l n).1 h i s hs).2.1
theorem shards_40 {l : List Sh} {n : Int} (h : shardsOk l n = true) : lenH l ≤ 40 := by
  cases l with
  | nil => simp [lenH]
  | cons a t => exact ((shardsOk_iff _ n).1 h 0 a rfl).2.2
end G294
namespace Go.Proofs.YtipmfebnjmobfaaDoor
open Go.RowKit G294

set_option maxRecDepth 100000 in
set_option maxHeartbeats 4000000 in
theorem sDecodeShards_own (v : Value) (l : List Sh) (k m : Int) (w : World) (hv : SeenH w v l) :
    Calls Tryd.prog 13 #[v, .int .i64 k, .int .i64 m] w (RetStrsOk 9 w (decR l k m) (decOk l k m)) := by
  have HV := Lib.hid hv
  obtain ⟨A, cp, hvv⟩ := hv.len
  subst hvv
  clear hv
  by_cases hs : shapeOk k m = true
  · have HS := Lib.hid hs
    have hbs := shapeOk_b hs
    obtain ⟨p, rfl⟩ := Int.eq_ofNat_of_zero_le (show 0 ≤ k by omega)
    obtain ⟨q, rfl⟩ := Int.eq_ofNat_of_zero_le (show 0 ≤ m by omega)
    clear hs
    by_cases hsh : shardsOk l ((p : Int) + q) = true
    · have HH := Lib.hid hsh
      clear hsh
      by_cases hlen : p ≤ l.length
      · have hpre : preOk l p q = true := by rw [preOk, HS.out, HH.out]; simp; omega
        have HO := Lib.hid (decOk_yes hpre)
        have HR := Lib.hid (decR_yes hpre)
        clear hpre
        have hll : ¬ ((l.length : Nat) : Int) < (p : Int) := by omega
        go_enter Tryd.func13, Tryd.ntmps13
        go_wp2_with fail
        refine (sGoodShape_any _ _ _).mono ?_
        rintro e w' ⟨rfl, rfl⟩
        rw [HS.out]
        go_wp2_with fail
        refine (l3Shards_any _ l _ _ HV.out (by omega)).mono ?_
        rintro e w1 ⟨rfl, k1⟩
        rw [HH.out]
        go_wp2_with fail
        refine (l3Decode_own p q (lenH l) l _ _ (HV.out.below k1.to_below) (by omega) (by omega) (by omega) (shards_no HH.out) (shards_len HH.out) (shards_40 HH.out)).mono ?_
        rintro e w2 ⟨v2, rfl, hO2, k2⟩
        go_wp2_with fail
        go_ret2
        exact ⟨_, by rw [HO.out]; rfl, by rw [HR.out]; exact ⟨own_base hO2.1 k1.size, hO2.2⟩, turn_trans k1 k2 (by omega)⟩
      · have hpre : preOk l p q = false := by rw [preOk, HS.out, HH.out]; simp; omega
        have HO := Lib.hid (decOk_no hpre)
        have HR := Lib.hid (decR_no hpre)
        clear hpre
        have hll : ((l.length : Nat) : Int) < (p : Int) := by omega
        go_enter Tryd.func13, Tryd.ntmps13
        go_wp2_with fail
        refine (sGoodShape_any _ _ _).mono ?_
        rintro e w' ⟨rfl, rfl⟩
        rw [HS.out]
        go_wp2_with fail
        refine (l3Shards_any _ l _ _ HV.out (by omega)).mono ?_
        rintro e w1 ⟨rfl, k1⟩
        rw [HH.out]
        go_wp2_with fail
        go_ret2
        exact ⟨.slice none 0 0, by rw [HO.out]; rfl, by rw [HR.out]; exact OwnStrs.nil _ _ _, k1⟩
    · have hsh1 : shardsOk l ((p : Int) + q) = false := by simpa using hsh
      have HH := Lib.hid hsh1
      have hpre : preOk l p q = false := by rw [preOk, hsh1]; simp
      have HO := Lib.hid (decOk_no hpre)
      have HR := Lib.hid (decR_no hpre)
      clear hpre hsh hsh1
      go_enter Tryd.func13, Tryd.ntmps13
      go_wp2_with fail
      refine (sGoodShape_any _ _ _).mono ?_
      rintro e w' ⟨rfl, rfl⟩
      rw [HS.out]
      go_wp2_with fail
      refine (l3Shards_any _ l _ _ HV.out (by omega)).mono ?_
      rintro e w1 ⟨rfl, k1⟩
      rw [HH.out]
      go_wp2_with fail
      go_ret2
      exact ⟨.slice none 0 0, by rw [HO.out]; rfl, by rw [HR.out]; exact OwnStrs.nil _ _ _, k1⟩
  · have hs1 : shapeOk k m = false := by simpa using hs
    have HS := Lib.hid hs1
    have hpre : preOk l k m = false := by rw [preOk, hs1]; simp
    have HO := Lib.hid (decOk_no hpre)
    have HR := Lib.hid (decR_no hpre)
    clear hpre hs hs1
    go_enter Tryd.func13, Tryd.ntmps13
    go_wp2_with fail
    refine (sGoodShape_any _ _ _).mono ?_
    rintro e w' ⟨rfl, rfl⟩
    rw [HS.out]
    go_wp2_with fail
    go_ret2
    exact ⟨.slice none 0 0, by rw [HO.out]; rfl, by rw [HR.out]; exact OwnStrs.nil _ _ _, TurnIn.refl _⟩

end Go.Proofs.YtipmfebnjmobfaaDoor
