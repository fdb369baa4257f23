/- Joined texts: AnyMath, SpecDecode2, Decode, Remade, RebMath, ChkMath, AnyFew. -/
import Derived.Test.YtbfchebnooanjaaDoorBd19
import Derived.Test.YtbfchebnooanjaaDoorBd07
import Derived.Test.YtbfchebnooanjaaDoorBd18
import Derived.Test.YtbfchebnooanjaaDoorBd15
import Derived.Test.YtbfchebnooanjaaDoorBd17
import Derived.Test.YtbfchebnooanjaaDoorBd11
set_option linter.unusedSimpArgs false
set_option linter.unusedVariables false
/- Any k rows of the matrix of a Reed-Solomon code are independent. -/
namespace G294
theorem cau_inv {k r j : Nat} (h1 : k + r < 256) (h2 : j < 256) : cauF k r j = ginv (UInt8.ofNat (k + r) ^^^ UInt8.ofNat j) := by
  unfold cauF ginv
  rw [UInt8.toNat_xor, UInt8.toNat_ofNat', UInt8.toNat_ofNat', Nat.mod_eq_of_lt (show k + r < 2 ^ 8 from h1), Nat.mod_eq_of_lt (show j < 2 ^ 8 from h2)]
theorem ofNat_inj {a b : Nat} (ha : a < 256) (hb : b < 256) (h : UInt8.ofNat a = UInt8.ofNat b) : a = b := by
  have := congrArg UInt8.toNat h
  rwa [UInt8.toNat_ofNat', UInt8.toNat_ofNat', Nat.mod_eq_of_lt (show a < 2 ^ 8 from ha), Nat.mod_eq_of_lt (show b < 2 ^ 8 from hb)] at this
theorem nodup_ofNat {l : List Nat} (hn : l.Nodup) (h : ∀ x ∈ l, x < 256) : (l.map UInt8.ofNat).Nodup := by
  induction l with
  | nil => simp
  | cons x l ih =>
    have h1 := List.nodup_cons.1 hn
    rw [List.map_cons, List.nodup_cons]
    refine ⟨fun hm => ?_, ih h1.2 fun y hy => h y (by simp [hy])⟩
    obtain ⟨y, hy, e⟩ := List.mem_map.1 hm
    have := ofNat_inj (h y (by simp [hy])) (h x (by simp)) e
    exact h1.1 (this ▸ hy)
/-- no kernel -/
theorem code_ker {k m : Nat} (N : List Nat) (hn : N.Nodup) (hl : N.length = k) (hb : ∀ x ∈ N, x < k + m) (hk : k + m ≤ 256) (v : Nat → UInt8)
    (h : ∀ x ∈ N, sumK k (fun j => gmul (codF k x j) (v j)) = 0) : ∀ j, j < k → v j = 0 := by
  have h1 : ∀ j, j < k → j ∈ N → v j = 0 := fun j hj hm => by
    have := h j hm
    rw [sumK_one (k := j) _ hj (fun t ht hne => by simp only [codF, if_pos hj, idF]; rw [if_neg (fun e => hne e.symm)]; exact zero_gmul _)] at this
    simp only [codF, if_pos hj, idF, if_true] at this
    rwa [one_gmul] at this
  let Y := (List.range k).filter fun j => !decide (j ∈ N)
  let X := N.filter fun x => !decide (x < k)
  have hYX : Y.length ≤ X.length := by
    have e1 := len_parts (fun j => decide (j ∈ N)) (List.range k)
    have e2 := len_parts (fun x => decide (x < k)) N
    have e3 : (N.filter fun x => decide (x < k)).length ≤ ((List.range k).filter fun j => decide (j ∈ N)).length := len_sub (hn.filter _) fun x hx => by
      rw [List.mem_filter] at hx ⊢
      exact ⟨List.mem_range.2 (by simpa using hx.2), by simpa using hx.1⟩
    rw [List.length_range] at e1
    show ((List.range k).filter fun j => !decide (j ∈ N)).length ≤ (N.filter fun x => !decide (x < k)).length
    omega
  have hXm : ∀ x ∈ X, x ∈ N ∧ k ≤ x := fun x hx => by
    have := List.mem_filter.1 hx
    exact ⟨this.1, by simpa using this.2⟩
  have hYm : ∀ y ∈ Y, y < k ∧ y ∉ N := fun y hy => by
    have := List.mem_filter.1 hy
    exact ⟨List.mem_range.1 this.1, by simpa using this.2⟩
  have key := cau_list (Y.map UInt8.ofNat) (X.map UInt8.ofNat) (fun y => v y.toNat) (by simpa using hYX)
    (nodup_ofNat (hn.filter _) fun x hx => by have := hb x (hXm x hx).1; omega)
    (nodup_ofNat (List.nodup_range.filter _) fun y hy => by have := (hYm y hy).1; omega)
    (fun x hx y hy e => by
      obtain ⟨a, ha, rfl⟩ := List.mem_map.1 hx
      obtain ⟨b, hb', rfl⟩ := List.mem_map.1 hy
      have h3 := hb a (hXm a ha).1
      have h4 := (hYm b hb').1
      have := ofNat_inj (by omega) (by omega) e
      have := (hXm a ha).2
      omega)
    (fun x hx => by
      obtain ⟨a, ha, rfl⟩ := List.mem_map.1 hx
      obtain ⟨ha1, ha2⟩ := hXm a ha
      have h3 := hb a ha1
      rw [sumL_map]
      have hrow := h a ha1
      rw [← sumL_range] at hrow
      rw [← sumL_filter (fun j => !decide (j ∈ N)) (List.range k) _ (fun j hj hp => by
        have hjN : j ∈ N := by simpa using hp
        show gmul (codF k a j) (v j) = 0
        rw [h1 j (List.mem_range.1 hj) hjN, gmul_comm, zero_gmul])] at hrow
      rw [← hrow]
      refine sumL_congr fun j hj => ?_
      have hj' := (hYm j hj).1
      have e0 : (UInt8.ofNat j).toNat = j := by rw [UInt8.toNat_ofNat', Nat.mod_eq_of_lt (show j < 2 ^ 8 by omega)]
      rw [e0]
      simp only [codF, if_neg (Nat.not_lt.2 ha2)]
      rw [cau_inv (by omega) (by omega), show k + (a - k) = a by omega, gmul_comm])
  intro j hj
  by_cases hm : j ∈ N
  · exact h1 j hj hm
  · have hy : j ∈ Y := List.mem_filter.2 ⟨List.mem_range.2 hj, by simpa using hm⟩
    have := key (UInt8.ofNat j) (List.mem_map.2 ⟨j, hy, rfl⟩)
    simpa [UInt8.toNat_ofNat', Nat.mod_eq_of_lt (show j < 2 ^ 8 by omega)] using this
/-- an increasing list of numbers has none twice -/
theorem some_nodup {l : List Int} {size : Nat} (h : someOk l size = true) : (l.map Int.toNat).Nodup := by
  have h' := (someOk_iff l size).1 h
  have mono : ∀ i d, i + d < l.length → 0 < d → l.getD i 0 < l.getD (i + d) 0 := fun i d => by
    induction d with
    | zero => intro _ h0; omega
    | succ d ih =>
      intro hlt _
      have h2 := (h' (i + (d + 1)) hlt).2.2 (by omega)
      rw [show i + (d + 1) - 1 = i + d by omega] at h2
      rcases Nat.eq_zero_or_pos d with rfl | hd
      · simpa using h2
      · have := ih (by omega) hd; omega
  rw [List.nodup_iff_pairwise_ne, List.pairwise_iff_getElem]
  intro i j hi hj hij
  simp only [List.length_map] at hi hj
  simp only [List.getElem_map]
  have e1 := (h' i hi).1
  have e2 := mono i (j - i) (by omega) (by omega)
  rw [show i + (j - i) = j by omega] at e2
  have g1 : l.getD i 0 = l[i] := by simp [List.getD, hi]
  have g2 : l.getD j 0 = l[j] := by simp [List.getD, hj]
  rw [g1] at e1 e2
  rw [g2] at e2
  omega
/-- any k rows of the code's matrix have full rank -/
theorem code_full {k m : Nat} {l : List Int} (h : someOk l (k + m) = true) (hl : l.length = k) (hk : k + m ≤ 256) : (est (fun i j => codF k (l.getD i 0).toNat j) k k).2 = k := by
  have h' := (someOk_iff l (k + m)).1 h
  refine rank_full (Nat.le_refl _) fun v hv => ?_
  refine code_ker (m := m) (l.map Int.toNat) (some_nodup h) (by simpa using hl) (fun x hx => ?_) hk v (fun x hx => ?_)
  · obtain ⟨a, ha, rfl⟩ := List.mem_map.1 hx
    obtain ⟨i, hi, rfl⟩ := List.getElem_of_mem ha
    have := h' i hi
    unfold okAt at this
    have g1 : l.getD i 0 = l[i] := by simp [List.getD, hi]
    rw [g1] at this
    omega
  · obtain ⟨a, ha, rfl⟩ := List.mem_map.1 hx
    obtain ⟨i, hi, rfl⟩ := List.getElem_of_mem ha
    have := hv i (by omega)
    have g1 : l.getD i 0 = l[i] := by simp [List.getD, hi]
    simpa only [g1] using this
end G294

/- DecodeShards: the model's, and its mathematics. -/
namespace G294
open Go Go.RowKit
def lenH (l : List Sh) : Nat := (l.getD 0 (0, [])).2.length
/-- what both check ahead of the inverse -/
def preOk (l : List Sh) (k m : Int) : Bool := shapeOk k m && shardsOk l (k + m) && decide (k ≤ l.length)
def decOk (l : List Sh) (k m : Int) : Bool := preOk l k m && usedOk k.toNat l
def decR (l : List Sh) (k m : Int) : List (List UInt8) := if preOk l k m = true then decY k.toNat (lenH l) l else []
theorem decR_no {l : List Sh} {k m : Int} (h : preOk l k m = false) : decR l k m = [] := if_neg (by rw [h]; simp)
theorem decR_yes {l : List Sh} {k : Nat} {m : Int} (h : preOk l k m = true) : decR l k m = decY k (lenH l) l := by unfold decR; rw [if_pos h]; simp
theorem decOk_no {l : List Sh} {k m : Int} (h : preOk l k m = false) : decOk l k m = false := by unfold decOk; rw [h]; rfl
theorem decOk_yes {l : List Sh} {k : Nat} {m : Int} (h : preOk l k m = true) : decOk l k m = usedOk k l := by unfold decOk; rw [h]; simp
theorem shards_ge {l : List Sh} {n : Int} (h : shardsOk l n = true) : ∀ (i : Nat) (s : Sh), l[i]? = some s → 0 ≤ s.1
  | 0, s, hs => by have := ((shardsOk_iff l n).1 h 0 s hs).1.1; simp [lastNo] at this; omega
  | i + 1, s, hs => by
    have h1 := ((shardsOk_iff l n).1 h (i + 1) s hs).1.1
    have hi : i < l.length := by have := (List.getElem?_eq_some_iff.1 hs).1; omega
    have h2 := shards_ge h i l[i] (List.getElem?_eq_getElem hi)
    rw [lastNo_succ (List.getElem?_eq_getElem hi)] at h1
    omega
theorem shards_no {l : List Sh} {k q : Nat} (h : shardsOk l ((k : Int) + q) = true) : ∀ (i : Nat) (s : Sh), l[i]? = some s → 0 ≤ s.1 ∧ s.1 < ((k + q : Nat) : Int) := fun i s hs => by
  have h1 := ((shardsOk_iff _ _).1 h i s hs).1.2
  have h2 := shards_ge h i s hs
  omega
theorem shards_len {l : List Sh} {n : Int} (h : shardsOk l n = true) : ∀ (i : Nat) (s : Sh), l[i]? = some s → s.2.length = lenH l := fun i s hs => ((shardsOk_iff l n).1 h i s hs).2.1
theorem shards_40 {l : List Sh} {n : Int} (h : shardsOk l n = true) : lenH l ≤ 40 := by
  cases l with
  | nil => simp [lenH]
  | cons a t => exact ((shardsOk_iff _ n).1 h 0 a rfl).2.2
end G294
namespace Go.Proofs.YtbfchebnooanjaaDoor
open Go.RowKit G294

set_option maxRecDepth 100000 in
set_option maxHeartbeats 4000000 in
theorem sDecodeShards_own (v : Value) (l : List Sh) (k m : Int) (w : World) (hv : SeenH w v l) :
    Calls Tryd.prog 28 #[v, .int .i64 k, .int .i64 m] w (RetStrsOk 9 w (decR l k m) (decOk l k m)) := by
  have HV := Lib.hid hv
  obtain ⟨A, cp, hvv⟩ := hv.len
  subst hvv
  clear hv
  by_cases hs : shapeOk k m = true
  · have HS := Lib.hid hs
    have hbs := shapeOk_b hs
    obtain ⟨p, rfl⟩ := Int.eq_ofNat_of_zero_le (show 0 ≤ k by omega)
    obtain ⟨q, rfl⟩ := Int.eq_ofNat_of_zero_le (show 0 ≤ m by omega)
    clear hs
    by_cases hsh : shardsOk l ((p : Int) + q) = true
    · have HH := Lib.hid hsh
      clear hsh
      by_cases hlen : p ≤ l.length
      · have hpre : preOk l p q = true := by rw [preOk, HS.out, HH.out]; simp; omega
        have HO := Lib.hid (decOk_yes hpre)
        have HR := Lib.hid (decR_yes hpre)
        clear hpre
        have hll : ¬ ((l.length : Nat) : Int) < (p : Int) := by omega
        go_enter Tryd.func28, Tryd.ntmps28
        go_wp2_with fail
        refine (sGoodShape_any _ _ _).mono ?_
        rintro e w' ⟨rfl, rfl⟩
        rw [HS.out]
        go_wp2_with fail
        refine (l3Shards_any _ l _ _ HV.out (by omega)).mono ?_
        rintro e w1 ⟨rfl, k1⟩
        rw [HH.out]
        go_wp2_with fail
        refine (l3Decode_own p q (lenH l) l _ _ (HV.out.below k1.to_below) (by omega) (by omega) (by omega) (shards_no HH.out) (shards_len HH.out) (shards_40 HH.out)).mono ?_
        rintro e w2 ⟨v2, rfl, hO2, k2⟩
        go_wp2_with fail
        go_ret2
        exact ⟨_, by rw [HO.out]; rfl, by rw [HR.out]; exact ⟨own_base hO2.1 k1.size, hO2.2⟩, turn_trans k1 k2 (by omega)⟩
      · have hpre : preOk l p q = false := by rw [preOk, HS.out, HH.out]; simp; omega
        have HO := Lib.hid (decOk_no hpre)
        have HR := Lib.hid (decR_no hpre)
        clear hpre
        have hll : ((l.length : Nat) : Int) < (p : Int) := by omega
        go_enter Tryd.func28, Tryd.ntmps28
        go_wp2_with fail
        refine (sGoodShape_any _ _ _).mono ?_
        rintro e w' ⟨rfl, rfl⟩
        rw [HS.out]
        go_wp2_with fail
        refine (l3Shards_any _ l _ _ HV.out (by omega)).mono ?_
        rintro e w1 ⟨rfl, k1⟩
        rw [HH.out]
        go_wp2_with fail
        go_ret2
        exact ⟨.slice none 0 0, by rw [HO.out]; rfl, by rw [HR.out]; exact OwnStrs.nil _ _ _, k1⟩
    · have hsh1 : shardsOk l ((p : Int) + q) = false := by simpa using hsh
      have HH := Lib.hid hsh1
      have hpre : preOk l p q = false := by rw [preOk, hsh1]; simp
      have HO := Lib.hid (decOk_no hpre)
      have HR := Lib.hid (decR_no hpre)
      clear hpre hsh hsh1
      go_enter Tryd.func28, Tryd.ntmps28
      go_wp2_with fail
      refine (sGoodShape_any _ _ _).mono ?_
      rintro e w' ⟨rfl, rfl⟩
      rw [HS.out]
      go_wp2_with fail
      refine (l3Shards_any _ l _ _ HV.out (by omega)).mono ?_
      rintro e w1 ⟨rfl, k1⟩
      rw [HH.out]
      go_wp2_with fail
      go_ret2
      exact ⟨.slice none 0 0, by rw [HO.out]; rfl, by rw [HR.out]; exact OwnStrs.nil _ _ _, k1⟩
  · have hs1 : shapeOk k m = false := by simpa using hs
    have HS := Lib.hid hs1
    have hpre : preOk l k m = false := by rw [preOk, hs1]; simp
    have HO := Lib.hid (decOk_no hpre)
    have HR := Lib.hid (decR_no hpre)
    clear hpre hs hs1
    go_enter Tryd.func28, Tryd.ntmps28
    go_wp2_with fail
    refine (sGoodShape_any _ _ _).mono ?_
    rintro e w' ⟨rfl, rfl⟩
    rw [HS.out]
    go_wp2_with fail
    go_ret2
    exact ⟨.slice none 0 0, by rw [HO.out]; rfl, by rw [HR.out]; exact OwnStrs.nil _ _ _, TurnIn.refl _⟩

end Go.Proofs.YtbfchebnooanjaaDoor

/- DecodeShards, the program's. -/
namespace G294
open Go Go.RowKit
theorem used_inv {k : Nat} (l : List Sh) (h1 : 1 ≤ k) (h2 : k ≤ 16) : invOk (mkM k k (usedF k l)) = usedOk k l := by
  have e : ent (mkM k k (usedF k l)) = usedF k l := by rw [used_mk]; rfl
  have g : goodM (mkM k k (usedF k l)) = true := good_mkM _ _ _ h1 h2 h1 h2
  unfold invOk squareM rankN usedOk
  rw [g, wid_mkM _ _ _ (by omega), mkM_length, e]
  simp
theorem used_cod {k q : Nat} {l : List Sh} (hk : k ≤ l.length) (hno : ∀ (i : Nat) (s : Sh), l[i]? = some s → 0 ≤ s.1 ∧ s.1 < ((k + q : Nat) : Int)) : usedM (codM k q) (l.take k) = mkM k k (usedF k l) := by
  have h1 : usedM (codM k q) (l.take k) = pickM (mkM (k + q) k (codF k)) (nosK k l) := rfl
  have hl := nosK_length hk
  rw [h1, pickM_mk (fun i hi => by
    rw [hl] at hi
    rw [nosK_get hk hi]
    exact hno i _ (by simp [List.getD, show i < l.length by omega])), hl, used_mk]
  exact mkM_congr fun i j hi hj => by rw [nosK_get hk hi]; rfl
theorem cod_ok {k q : Nat} {l : List Sh} (hk : k ≤ l.length) (h1 : 1 ≤ k) (h2 : k ≤ 16) (hno : ∀ (i : Nat) (s : Sh), l[i]? = some s → 0 ≤ s.1 ∧ s.1 < ((k + q : Nat) : Int)) : dbOk (codM k q) (l.take k) = usedOk k l := by
  unfold dbOk
  rw [used_cod hk hno, used_inv l h1 h2]
theorem cod_R {k q n : Nat} {l : List Sh} (hk : k ≤ l.length) (h1 : 1 ≤ k) (h2 : k ≤ 16) (hno : ∀ (i : Nat) (s : Sh), l[i]? = some s → 0 ≤ s.1 ∧ s.1 < ((k + q : Nat) : Int)) : dbR (codM k q) (l.take k) n = decY k n l := by
  have e : ent (mkM k k (usedF k l)) = usedF k l := by rw [used_mk]; rfl
  have ht : (l.take k).length = k := by simp; omega
  unfold dbR decY
  rw [cod_ok hk h1 h2 hno, ht, used_cod hk hno]
  unfold invF decX
  rw [e, mkM_length]
  rfl
theorem SeenH.take {w : World} {A : Option Addr} {c : Nat} {l : List Sh} (h : SeenH w (.slice A l.length c) l) (k : Nat) (hk : k ≤ l.length) : SeenH w (.slice A k c) (l.take k) := by
  obtain ⟨A', c', e, h1, h2, h3⟩ := h
  simp only [Value.slice.injEq, true_and] at e
  obtain ⟨rfl, rfl⟩ := e
  have ht : (l.take k).length = k := by simp; omega
  refine ⟨A, c, by rw [ht], by omega, h2, fun h0 => ?_⟩
  rw [ht] at h0
  obtain ⟨b, off, e, hb, hc⟩ := h3 (by omega)
  refine ⟨b, off, e, hb, fun i s hs => hc i s ?_⟩
  rw [List.getElem?_take] at hs
  split at hs
  · exact hs
  · cases hs
end G294
namespace Go.Proofs.YtbfchebnooanjaaDoor
open Go.RowKit Go.Shelf G294

set_option maxRecDepth 100000 in
set_option maxHeartbeats 4000000 in
theorem decodeShards_own (v : Value) (l : List Sh) (k m : Int) (w : World) (hv : SeenH w v l) (hln : l.length ≤ 1048576) (ht : Tab w) (h0 : 0 < w.heap.size) :
    Calls Tryd.prog 55 #[v, .int .i64 k, .int .i64 m] w (RetStrsOk 9 w (decR l k m) (decOk l k m)) := by
  have HV := Lib.hid hv
  have HTB := Lib.hid ht
  obtain ⟨A, cp, rfl, hlc, hcm, hx⟩ := hv
  unfold maxLen at hcm
  clear ht
  by_cases hs : shapeOk k m = true
  · have HS := Lib.hid hs
    have hbs := shapeOk_b hs
    obtain ⟨p, rfl⟩ := Int.eq_ofNat_of_zero_le (show 0 ≤ k by omega)
    obtain ⟨q, rfl⟩ := Int.eq_ofNat_of_zero_le (show 0 ≤ m by omega)
    have HR1 := Lib.hid (codR_yes hs)
    have hp8 : 1 ≤ p ∧ p ≤ 8 := by omega
    have hq6 : 1 ≤ q ∧ q ≤ 6 := by omega
    clear hs
    have HPRE : Hid (preOk l p q = (shardsOk l ((p + q : Nat) : Int) && decide (p ≤ l.length))) := by
      show preOk l p q = _
      unfold preOk
      rw [HS.out, show (p : Int) + (q : Int) = ((p + q : Nat) : Int) by omega]
      simp
    have HNO : Hid (shardsOk l ((p + q : Nat) : Int) = true → ∀ (i : Nat) (s : Sh), l[i]? = some s → 0 ≤ s.1 ∧ s.1 < ((p + q : Nat) : Int)) := fun h => shards_no (by rw [show (p : Int) + (q : Int) = ((p + q : Nat) : Int) by omega]; exact h)
    by_cases hlen : p ≤ l.length
    · have hlb : decide (l.length < p) = false := by simpa using hlen
      obtain ⟨b, off, rfl, hbl, hcell⟩ := hx (by omega)
      clear hx hcell
      generalize hL : l.length = Ln at *
      have HL := Lib.hid hL
      clear hL
      go_enter Tryd.func55, Tryd.ntmps55
      go_wp2_with fail
      refine (codeMatrix_own p q _ HTB.out h0).mono ?_
      rintro e w1 ⟨v1, vs1, rfl, hM1, k1⟩
      rw [HR1.out] at hM1
      rw [HS.out]
      have hpr : 0 < (codM p q).length := by simp [codM]; omega
      obtain ⟨g1, cp1, rfl, hg1, hg1', hcp1, hcp1'⟩ := hM1.slice hpr
      have hlr : (codM p q).length = p + q := by simp [codM]
      rw [hlr] at hM1 hcp1 ⊢
      clear hpr hlr
      generalize hr : p + q = r at *
      have HRR := Lib.hid hr
      clear hr
      have hs1 := k1.size
      have a1 := turn_alloc w1 (.cells #[.slice (some ⟨g1, 0, none⟩) r cp1] 67)
      have z1 := World.size_alloc w1 (.cells #[.slice (some ⟨g1, 0, none⟩) r cp1] 67)
      have c1 := alloc_cell w1 (.slice (some ⟨g1, 0, none⟩) r cp1) 67
      have hB1 : Below w.heap.size w (w1.alloc (.cells #[.slice (some ⟨g1, 0, none⟩) r cp1] 67)) := a1.base k1.to_below (by omega) (by omega)
      replace hM1 := hM1.keep a1 (by omega)
      go_wp2_with fail
      refine (goodShards_any _ l _ _ (HV.out.below hB1) (by rw [HL.out]; omega)).mono ?_
      rintro e w3 ⟨rfl, k3⟩
      have hs3 := k3.size
      have HB3 := Lib.hid (k3.base hB1 (by omega) (by omega))
      have HM3 := Lib.hid (hM1.keep k3 (by omega))
      have c3 := cell_turn k3 c1 (by omega)
      clear hM1 c1 a1 hB1 k3
      by_cases hsh : shardsOk l (r : Int) = true
      · have hpre : preOk l p q = true := by rw [HPRE.out, hsh]; simpa using hlen
        have HO := Lib.hid (decOk_yes hpre)
        have HR := Lib.hid (decR_yes hpre)
        have hno := HNO.out hsh
        have hno' : ∀ (i : Nat) (s : Sh), l[i]? = some s → 0 ≤ s.1 ∧ s.1 < ((p + q : Nat) : Int) := by rw [HRR.out]; exact hno
        have hl1 : p ≤ l.length := by rw [HL.out]; exact hlen
        have HDO := Lib.hid (cod_ok hl1 hp8.1 (by omega) hno')
        have HDR := Lib.hid (cod_R (n := lenH l) hl1 hp8.1 (by omega) hno')
        have HTX : Hid (∀ j, j < (l.take p).length → (((l.take p).map (·.2)).getD j []).length = lenH l) := fun j hj => by
          have hj' : j < p := by simp at hj; omega
          have : j < l.length := by omega
          have e := shards_len hsh j l[j] (List.getElem?_eq_getElem this)
          have e2 : ((l.take p).map (·.2)).getD j [] = l[j].2 := by simp [List.getD, this, hj']
          rw [e2]; exact e
        have h40 := shards_40 hsh
        have HNN : Hid (∀ i, i < ((l.take p).map (·.1)).length → 0 ≤ ((l.take p).map (·.1)).getD i 0 ∧ ((l.take p).map (·.1)).getD i 0 < ((codM p q).length : Int)) := fun i hi => by
          have hi' : i < p := by simp at hi; omega
          have hil : i < l.length := by omega
          have e2 : ((l.take p).map (·.1)).getD i 0 = l[i].1 := by simp [List.getD, hil, hi']
          rw [e2, show (codM p q).length = p + q by simp [codM]]
          exact hno' i l[i] (List.getElem?_eq_getElem hil)
        have HSV : Hid (∀ W, Below w.heap.size w W → SeenH W (.slice (some ⟨b, off, none⟩) p cp) (l.take p)) := fun W hb => SeenH.take (by rw [HL.out]; exact HV.out.below hb) p hl1
        have hpc : (p : Int) ≤ (cp : Int) := by omega
        have hp0 : (0 : Int) ≤ (p : Int) := by omega
        rw [hsh]
        clear hsh hno hno' hl1 hpre
        have hlt3 : w1.heap.size < w3.heap.size := by omega
        go_wp2_with fail
        go_region_held3 (fun w' => w'.cell? ⟨w1.heap.size, 0, none⟩ = some (.slice (some ⟨g1, 0, none⟩) r cp1))
          (first | exact c3)
          (first | (go_at_call 46; refine (decodedBy_own _ (codM p q) _ (l.take p) (lenH l) (World.drew w3) (show SeenM w3.drew _ _ from HM3.out.seen) (HSV.out _ HB3.out.drew) (by simp; omega) HNN.out HTX.out (by omega) (HTB.out.below HB3.out.drew h0) (show _ < w3.heap.size by have := HB3.out.size; omega)).mono ?_; rintro e w5 ⟨v5, rfl, o5, k5⟩; replace k5 := undrew k5; replace c3 := cell_turn k5 c3 hlt3))
        all_goals
          rw [HDO.out] at *
          rw [HDR.out] at *
          go_wp2_with fail
          go_ret2
          refine ⟨v5, by rw [HO.out]; rfl, ?_, TurnIn.of_below (k5.base HB3.out (by have := HB3.out.size; omega) (by omega))⟩
          rw [HR.out]
          exact ⟨own_base o5.1 (by show w.heap.size ≤ w3.heap.size; have := HB3.out.size; omega), o5.2⟩
      · have hsh' : shardsOk l (r : Int) = false := by simpa using hsh
        have hpre : preOk l p q = false := by rw [HPRE.out, hsh']; rfl
        have HO := Lib.hid (decOk_no hpre)
        have HR := Lib.hid (decR_no hpre)
        rw [hsh']
        clear hsh hsh' hpre
        go_wp2_with fail
        go_ret2
        exact ⟨.slice none 0 0, by rw [HO.out]; rfl, by rw [HR.out]; exact ⟨World.ownsRow_nil _ _ _ _, Nat.le_refl _, fun g e => by simp [Value.ownBlock] at e⟩, TurnIn.of_below HB3.out⟩
    · have hlb : decide (l.length < p) = true := by simpa using hlen
      clear hx
      have hpre : preOk l p q = false := by rw [HPRE.out]; simp; omega
      have HO := Lib.hid (decOk_no hpre)
      have HR := Lib.hid (decR_no hpre)
      clear hpre
      generalize hL : l.length = Ln at *
      clear hL
      go_enter Tryd.func55, Tryd.ntmps55
      go_wp2_with fail
      refine (codeMatrix_own p q _ HTB.out h0).mono ?_
      rintro e w1 ⟨v1, vs1, rfl, hM1, k1⟩
      obtain ⟨A1, n1, c1, rfl⟩ := hM1.isSlice
      rw [HS.out]
      have hs1 := k1.size
      have a1 := turn_alloc w1 (.cells #[.slice A1 n1 c1] 67)
      have hB1 : Below w.heap.size w (w1.alloc (.cells #[.slice A1 n1 c1] 67)) := a1.base k1.to_below (by omega) (by omega)
      clear hM1
      go_wp2_with fail
      go_ret2
      exact ⟨.slice none 0 0, by rw [HO.out]; rfl, by rw [HR.out]; exact ⟨World.ownsRow_nil _ _ _ _, Nat.le_refl _, fun g e => by simp [Value.ownBlock] at e⟩, TurnIn.of_below hB1⟩
  · have hs1 : shapeOk k m = false := by simpa using hs
    have HS := Lib.hid hs1
    have hpre : preOk l k m = false := by rw [preOk, hs1]; simp
    have HO := Lib.hid (decOk_no hpre)
    have HR := Lib.hid (decR_no hpre)
    clear hpre hs hs1 hx
    go_enter Tryd.func55, Tryd.ntmps55
    go_wp2_with fail
    refine (codeMatrix_own k m _ HTB.out h0).mono ?_
    rintro e w1 ⟨v1, vs1, rfl, hM1, k1⟩
    obtain ⟨A1, n1, c1, rfl⟩ := hM1.isSlice
    rw [HS.out]
    have hs1 := k1.size
    have a1 := turn_alloc w1 (.cells #[.slice A1 n1 c1] 67)
    have hB1 : Below w.heap.size w (w1.alloc (.cells #[.slice A1 n1 c1] 67)) := a1.base k1.to_below (by omega) (by omega)
    clear hM1
    go_wp2_with fail
    go_ret2
    exact ⟨.slice none 0 0, by rw [HO.out]; rfl, by rw [HR.out]; exact ⟨World.ownsRow_nil _ _ _ _, Nat.le_refl _, fun g e => by simp [Value.ownBlock] at e⟩, TurnIn.of_below hB1⟩

end Go.Proofs.YtbfchebnooanjaaDoor

/- remade: the iterator over the shards that EncodeShards makes of DecodeShards. -/
namespace G294
open Go Go.RowKit
/-- the iterator's closure, and what it holds -/
def MadeIt (TM TS E EE ES : TypeId) (g : Nat) (w : World) (l : List Sh) (k m : Nat) (s : Value) (w' : World) : Prop := ∃ Bm Bt A n c At nt ct vs, s = .func (.func g) #[] #[.pointer (some ⟨Bm, 0, none⟩), .pointer (some ⟨Bt, 0, none⟩)] ∧ Boxed w' Bm TM (.slice A n c) ∧ Boxed w' Bt TS (.slice At nt ct) ∧ w.heap.size ≤ Bm ∧ w.heap.size ≤ Bt ∧
  OwnM E EE w' w.heap.size w'.heap.size (.slice A n c) (codM k m) vs ∧ OwnStrs ES w' w.heap.size w'.heap.size (.slice At nt ct) (decR l k m) ∧ TurnIn 0 0 w w'
theorem decR_row {l : List Sh} {k m : Nat} (h : decOk l k m = true) : ∀ j, j < k → ((decR l k m).getD j []).length = lenH l := fun j hj => by
  have hp : preOk l k m = true := by
    unfold decOk at h; simp only [Bool.and_eq_true] at h; exact h.1
  have hu : usedOk k l = true := by rw [decOk_yes hp] at h; exact h
  rw [decR_yes hp, decY_yes hu]
  unfold decX rowsT
  rw [mkM_getD _ _ _ _ hj, mkRow_length]
theorem decR_length {l : List Sh} {k m : Nat} (h : decOk l k m = true) : (decR l k m).length = k := by
  have hp : preOk l k m = true := by
    unfold decOk at h; simp only [Bool.and_eq_true] at h; exact h.1
  have hu : usedOk k l = true := by rw [decOk_yes hp] at h; exact h
  rw [decR_yes hp, decY_yes hu]
  unfold decX
  rw [rowsT_length]
theorem decOk_shape {l : List Sh} {k m : Int} (h : decOk l k m = true) : shapeOk k m = true := by
  unfold decOk preOk at h
  simp only [Bool.and_eq_true] at h
  exact h.1.1.1
theorem decOk_shards {l : List Sh} {k m : Int} (h : decOk l k m = true) : shardsOk l (k + m) = true := by
  unfold decOk preOk at h
  simp only [Bool.and_eq_true] at h
  exact h.1.1.2
end G294
namespace Go.Proofs.YtbfchebnooanjaaDoor
open Go.RowKit Go.Shelf G294

set_option maxRecDepth 100000 in
set_option maxHeartbeats 2000000 in
theorem remade_no (v : Value) (l : List Sh) (k m : Int) (w : World) (hv : SeenH w v l) (hln : l.length ≤ 1048576) (ht : Tab w) (h0 : 0 < w.heap.size) (hd : decOk l k m = false) :
    Calls Tryd.prog 27 #[v, .int .i64 k, .int .i64 m] w fun e w' => e = .returned (.tuple #[.nilFunc, .bool false]) ∧ TurnIn 0 0 w w' := by
  have HV := Lib.hid hv
  have HTB := Lib.hid ht
  have HD := Lib.hid hd
  obtain ⟨A, cp, rfl⟩ := hv.len
  clear hv ht hd
  go_enter Tryd.func27, Tryd.ntmps27
  go_wp2_with fail
  refine (decodeShards_own _ l k m _ HV.out hln HTB.out h0).mono ?_
  rintro e w1 ⟨v1, rfl, o1, k1⟩
  obtain ⟨A1, n1, c1, rfl⟩ := o1.isSlice
  rw [HD.out]
  clear o1
  go_wp2_with fail
  go_ret2
  exact ⟨rfl, k1⟩

set_option maxRecDepth 100000 in
set_option maxHeartbeats 2000000 in
theorem remade_yes (v : Value) (l : List Sh) (p q : Nat) (w : World) (hv : SeenH w v l) (hln : l.length ≤ 1048576) (ht : Tab w) (h0 : 0 < w.heap.size) (hd : decOk l p q = true) :
    Calls Tryd.prog 27 #[v, .int .i64 p, .int .i64 q] w fun e w' => ∃ s, e = .returned (.tuple #[s, .bool true]) ∧ MadeIt 67 35 5 22 9 83 w l p q s w' := by
  have HV := Lib.hid hv
  have HTB := Lib.hid ht
  have HD := Lib.hid hd
  have HSH := Lib.hid (decOk_shape hd)
  have HR1 := Lib.hid (codR_yes (decOk_shape hd))
  obtain ⟨A, cp, rfl⟩ := hv.len
  clear hv ht hd
  go_enter Tryd.func27, Tryd.ntmps27
  go_wp2_with fail
  refine (decodeShards_own _ l p q _ HV.out hln HTB.out h0).mono ?_
  rintro e w1 ⟨v1, rfl, o1, k1⟩
  obtain ⟨A1, n1, c1, rfl⟩ := o1.isSlice
  rw [HD.out]
  have hs1 := k1.size
  have HO1 := Lib.hid o1
  clear o1
  go_wp2_with fail
  refine (codeMatrix_own p q _ (HTB.out.below k1.to_below h0) (by omega)).mono ?_
  rintro e w2 ⟨v2, vs2, rfl, hM2, k2⟩
  rw [HR1.out] at hM2
  rw [HSH.out]
  obtain ⟨A2, n2, c2, rfl⟩ := hM2.isSlice
  have hs2 := k2.size
  have a3 := turn_alloc w2 (.cells #[.slice A2 n2 c2] 67)
  have z3 := World.size_alloc w2 (.cells #[.slice A2 n2 c2] 67)
  have HM2 := Lib.hid (hM2.keep a3 (by omega))
  have HO2 := Lib.hid ((HO1.out.keep k2 (by omega)).keep a3 (by omega))
  have K13 := Lib.hid (turn_trans (turn_trans k1 k2 (by omega)) a3 (by omega))
  have hz3 : w.heap.size + 1 ≤ (w2.alloc (.cells #[.slice A2 n2 c2] 67)).heap.size := by omega
  have hz4 : w2.heap.size + 1 ≤ (w2.alloc (.cells #[.slice A2 n2 c2] 67)).heap.size := by omega
  clear hM2 z3
  go_wp2_with fail
  generalize (w2.alloc (.cells #[.slice A2 n2 c2] 67)) = w3 at *
  refine (shardsBy_any _ _ _ _ _).mono ?_
  rintro e w' ⟨rfl, rfl⟩
  go_wp2_with fail
  go_ret2
  have b1 := (Boxed.new w3 67 (.slice A2 n2 c2)).alloc (.cells #[.slice A1 n1 c1] 35)
  have b2 := Boxed.new (w3.alloc (.cells #[.slice A2 n2 c2] 67)) 35 (.slice A1 n1 c1)
  rw [World.size_alloc] at b2
  have kk : TurnIn 0 0 w3 ((w3.alloc (.cells #[.slice A2 n2 c2] 67)).alloc (.cells #[.slice A1 n1 c1] 35)) := turn_trans (turn_alloc _ _) (turn_alloc _ _) (by omega)
  refine ⟨_, rfl, w3.heap.size, w3.heap.size + 1, _, _, _, _, _, _, vs2, rfl, b1, b2, by omega, by omega, ?_, ?_, turn_trans K13.out kk (by omega)⟩
  · exact (HM2.out.keep kk (by omega)).wider (by omega) (by simp; omega) (Nat.le_refl _)
  · have o := HO2.out.keep kk (by omega)
    exact ⟨o.1, Nat.le_refl _, fun g hg => by have := o.2.2 g hg; simp; omega⟩

end Go.Proofs.YtbfchebnooanjaaDoor

/- RebuildShard: its mathematics; the model's. -/
namespace G294
open Go Go.RowKit
def rebOk (l : List Sh) (k m no : Int) : Bool := decOk l k m && decide (0 ≤ no ∧ no ≤ k + m - 1)
def rebR (l : List Sh) (k m no : Int) : Sh := if rebOk l k m no = true then (no, comb k.toNat (lenH l) (codF k.toNat no.toNat) (decR l k m)) else (0, [])
theorem rebR_no {l : List Sh} {k m no : Int} (h : rebOk l k m no = false) : rebR l k m no = (0, []) := if_neg (by rw [h]; simp)
theorem rebR_yes {l : List Sh} {k : Nat} {m no : Int} (h : rebOk l k m no = true) : rebR l k m no = (no, comb k (lenH l) (codF k no.toNat) (decR l k m)) := by unfold rebR; rw [if_pos h]; simp
/-- a shard and a bool are returned -/
def RetShOk (w : World) (x : Sh) (ok : Bool) (e : Ending) (w' : World) : Prop := e = .returned (.tuple #[.agg #[.int .i64 x.1, .string (str x.2)], .bool ok]) ∧ TurnIn 0 0 w w'
theorem str_nil' : str [] = ByteArray.mk #[] := rfl
end G294
namespace Go.Proofs.YtbfchebnooanjaaDoor
open Go.RowKit Go.Shelf G294

set_option maxRecDepth 100000 in
set_option maxHeartbeats 2000000 in
theorem sRebuildShard_own (v : Value) (l : List Sh) (k m no : Int) (w : World) (hv : SeenH w v l) :
    Calls Tryd.prog 7 #[v, .int .i64 k, .int .i64 m, .int .i64 no] w (RetShOk w (rebR l k m no) (rebOk l k m no)) := by
  have HV := Lib.hid hv
  obtain ⟨A, cp, rfl⟩ := hv.len
  clear hv
  have a1 := turn_alloc w (.cells #[.int .i64 0, .string ⟨#[]⟩] 27)
  have z1 := World.size_alloc w (.cells #[.int .i64 0, .string ⟨#[]⟩] 27)
  have c0 : (w.alloc (.cells #[.int .i64 0, .string ⟨#[]⟩] 27)).cell? ⟨w.heap.size, 0, none⟩ = some (.int .i64 0) := by simp
  have c1 : (w.alloc (.cells #[.int .i64 0, .string ⟨#[]⟩] 27)).cell? ⟨w.heap.size, 1, none⟩ = some (.string ⟨#[]⟩) := by simp
  have f0 : (w.alloc (.cells #[.int .i64 0, .string ⟨#[]⟩] 27)).frozen? ⟨w.heap.size, 0, none⟩ = false := by simp
  have f1 : (w.alloc (.cells #[.int .i64 0, .string ⟨#[]⟩] 27)).frozen? ⟨w.heap.size, 1, none⟩ = false := by simp
  by_cases hd : decOk l k m = true
  · have HD := Lib.hid hd
    have hbs := shapeOk_b (decOk_shape hd)
    have h40 := shards_40 (decOk_shards hd)
    obtain ⟨p, rfl⟩ := Int.eq_ofNat_of_zero_le (show 0 ≤ k by omega)
    obtain ⟨q, rfl⟩ := Int.eq_ofNat_of_zero_le (show 0 ≤ m by omega)
    have HDL := Lib.hid (decR_length hd)
    have HDR := Lib.hid (decR_row hd)
    clear hd
    by_cases hin : decide (0 ≤ no ∧ no ≤ (p : Int) + q - 1) = true
    · have HI : Hid (inB no 0 ((p : Int) + q - 1) = true) := hin
      have hb : 0 ≤ no ∧ no ≤ (p : Int) + q - 1 := by simpa using hin
      have hok : rebOk l p q no = true := by unfold rebOk; rw [HD.out, hin]; rfl
      have HO := Lib.hid hok
      have HR := Lib.hid (rebR_yes hok)
      clear hin hok
      obtain ⟨t, rfl⟩ := Int.eq_ofNat_of_zero_le hb.1
      go_enter Tryd.func7, Tryd.ntmps7
      go_wp2_with fail
      generalize (w.alloc (.cells #[.int .i64 0, .string ⟨#[]⟩] 27)) = wa at *
      refine (sDecodeShards_own _ l p q _ (HV.out.below a1.to_below)).mono ?_
      rintro e w1 ⟨v1, rfl, o1, k1⟩
      obtain ⟨A1, n1, c1', rfl⟩ := o1.isSlice
      rw [HD.out]
      have hs1 := k1.size
      go_wp2_with fail
      refine (l1In_any _ _ _ _).mono ?_
      rintro e w' ⟨rfl, rfl⟩
      rw [HI.out]
      have HO1 := Lib.hid o1
      clear o1
      go_wp2_with fail
      refine (l3Matrix_own p q _ (by omega) (by omega) (by omega) (by omega)).mono ?_
      rintro e w2 ⟨v2, vs2, rfl, hM2, k2⟩
      obtain ⟨A2, n2, c2, rfl⟩ := hM2.isSlice
      have hs2 := k2.size
      have HM2 := Lib.hid hM2
      have HO2 := Lib.hid (HO1.out.keep k2 (by omega))
      clear hM2
      go_wp2_with fail
      refine (l3Rows_own (p + q) p (lenH l) (codF p) (decR l p q) _ _ _ HM2.out.seen HO2.out.seen HDL.out (by omega) (by omega) (by omega) HDR.out (by omega)).mono ?_
      rintro e w3 ⟨v3, rfl, o3, k3⟩
      have hs3 := k3.size
      have kk := turn_trans (turn_trans k1 k2 (by omega)) k3 (by omega)
      have d0 := cell_turn kk c0 (by omega)
      have d1 := cell_turn kk c1 (by omega)
      have e0 := frozen_turn kk f0 (by omega)
      have e1 := frozen_turn kk f1 (by omega)
      have htl : t < (rowsT (p + q) p (lenH l) (codF p) (decR l p q)).length := by rw [rowsT_length]; omega
      obtain ⟨A3, c3, hv3, _, hcm3, hx3⟩ := o3.seen
      rw [strs_length, rowsT_length] at hv3
      obtain ⟨b3, off3, rfl, hb3, hc3⟩ := hx3 (by rw [strs_length]; omega)
      have hct := hc3 t _ (strs_get _ t htl)
      have hrow : (rowsT (p + q) p (lenH l) (codF p) (decR l p q))[t] = comb p (lenH l) (codF p t) (decR l p q) := by
        simp [rowsT, mkM, comb]
      rw [hrow] at hct
      subst hv3
      unfold maxLen at hcm3
      have ht0 : (0 : Int) ≤ (t : Int) := by omega
      have ht1 : (t : Int) < ((p + q : Nat) : Int) := by omega
      have KF := Lib.hid (turn_trans a1 kk (by omega))
      clear hx3 hc3 hrow htl o3 kk k1 k2 k3
      generalize htx : comb p (lenH l) (codF p t) (decR l p q) = tx at *
      have HTX := Lib.hid htx
      clear htx
      go_wp2_with fail
      refine bodyPost_ret (v := .tuple #[.agg #[.int .i64 t, .string (str tx)], .bool true]) (by simp [results, Tryd.results7, go_sem, d0, d1]) rfl ?_
      refine ⟨by rw [HR.out, HO.out, ← HTX.out, Int.toNat_natCast], TurnIn.of_below ?_⟩
      exact ((KF.out.to_below.setCell (p := ⟨w.heap.size, 0, none⟩) (Nat.le_refl _) _).setCell (p := ⟨w.heap.size, 1, none⟩) (Nat.le_refl _) _)
    · have hin' : decide (0 ≤ no ∧ no ≤ (p : Int) + q - 1) = false := by simpa using hin
      have HI : Hid (inB no 0 ((p : Int) + q - 1) = false) := hin'
      have hok : rebOk l p q no = false := by unfold rebOk; rw [hin']; simp
      have HO := Lib.hid hok
      have HR := Lib.hid (rebR_no hok)
      clear hin hin' hok
      go_enter Tryd.func7, Tryd.ntmps7
      go_wp2_with fail
      generalize (w.alloc (.cells #[.int .i64 0, .string ⟨#[]⟩] 27)) = wa at *
      refine (sDecodeShards_own _ l p q _ (HV.out.below a1.to_below)).mono ?_
      rintro e w1 ⟨v1, rfl, o1, k1⟩
      obtain ⟨A1, n1, c1', rfl⟩ := o1.isSlice
      rw [HD.out]
      clear o1
      go_wp2_with fail
      refine (l1In_any _ _ _ _).mono ?_
      rintro e w' ⟨rfl, rfl⟩
      rw [HI.out]
      have d0 := cell_turn k1 c0 (by omega)
      have d1 := cell_turn k1 c1 (by omega)
      have e0 := frozen_turn k1 f0 (by omega)
      have e1 := frozen_turn k1 f1 (by omega)
      have KF := Lib.hid (turn_trans a1 k1 (by omega))
      clear k1
      go_wp2_with fail
      refine bodyPost_ret (v := .tuple #[.agg #[.int .i64 0, .string ⟨#[]⟩], .bool false]) (by simp [results, Tryd.results7, go_sem, d0, d1]) rfl ?_
      refine ⟨by rw [HR.out, HO.out]; rfl, TurnIn.of_below ?_⟩
      exact ((KF.out.to_below.setCell (p := ⟨w.heap.size, 0, none⟩) (Nat.le_refl _) _).setCell (p := ⟨w.heap.size, 1, none⟩) (Nat.le_refl _) _)
  · have hd' : decOk l k m = false := by simpa using hd
    have HD := Lib.hid hd'
    have hok : rebOk l k m no = false := by unfold rebOk; rw [hd']; simp
    have HO := Lib.hid hok
    have HR := Lib.hid (rebR_no hok)
    clear hd hd' hok
    go_enter Tryd.func7, Tryd.ntmps7
    go_wp2_with fail
    generalize (w.alloc (.cells #[.int .i64 0, .string ⟨#[]⟩] 27)) = wa at *
    refine (sDecodeShards_own _ l k m _ (HV.out.below a1.to_below)).mono ?_
    rintro e w1 ⟨v1, rfl, o1, k1⟩
    obtain ⟨A1, n1, c1', rfl⟩ := o1.isSlice
    rw [HD.out]
    clear o1
    have d0 := cell_turn k1 c0 (by omega)
    have d1 := cell_turn k1 c1 (by omega)
    have e0 := frozen_turn k1 f0 (by omega)
    have e1 := frozen_turn k1 f1 (by omega)
    have KF := Lib.hid (turn_trans a1 k1 (by omega))
    clear k1
    go_wp2_with fail
    refine bodyPost_ret (v := .tuple #[.agg #[.int .i64 0, .string ⟨#[]⟩], .bool false]) (by simp [results, Tryd.results7, go_sem, d0, d1]) rfl ?_
    refine ⟨by rw [HR.out, HO.out]; rfl, TurnIn.of_below ?_⟩
    exact ((KF.out.to_below.setCell (p := ⟨w.heap.size, 0, none⟩) (Nat.le_refl _) _).setCell (p := ⟨w.heap.size, 1, none⟩) (Nat.le_refl _) _)

end Go.Proofs.YtbfchebnooanjaaDoor

/- CheckShards: its mathematics. -/
namespace G294
open Go Go.RowKit
theorem alloc_pair0' (w : World) (x y : Value) (T : TypeId) : (w.alloc (.cells #[x, y] T)).cell? ⟨w.heap.size, 0, none⟩ = some x := by simp
theorem alloc_pair1' (w : World) (x y : Value) (T : TypeId) : (w.alloc (.cells #[x, y] T)).cell? ⟨w.heap.size, 1, none⟩ = some y := by simp
/-- one round of the comparison: the next to be met, or the end -/
def stp (l : List Sh) (t : Nat) (x : Sh) : Option Nat := if t = l.length then none else if x = l.getD t (0, []) then some (t + 1) else if x.1 = (l.getD t (0, [])).1 then none else some t
def runC (l : List Sh) (pre : List Sh) : Option Nat := pre.foldl (fun o x => o.bind fun t => stp l t x) (some 0)
theorem runC_snoc (l pre : List Sh) (x : Sh) : runC l (pre ++ [x]) = (runC l pre).bind fun t => stp l t x := by simp [runC]
/-- every shard is the one that f makes -/
def matchB (l : List Sh) (f : Nat → List UInt8) : Bool := l.all fun s => decide (s.2 = f s.1.toNat)
theorem matchB_iff (l : List Sh) (f : Nat → List UInt8) : matchB l f = true ↔ ∀ (i : Nat) (s : Sh), l[i]? = some s → s.2 = f s.1.toNat := by
  simp only [matchB, List.all_eq_true, decide_eq_true_eq]
  constructor
  · intro h i s hs; exact h s (List.mem_of_getElem? hs)
  · intro h s hs
    obtain ⟨i, hi⟩ := List.mem_iff_getElem?.1 hs
    exact h i s hi
def chkR (l : List Sh) (k m : Int) : Bool := decOk l k m && matchB l fun j => comb k.toNat (lenH l) (codF k.toNat j) (decR l k m)
theorem chkR_no {l : List Sh} {k m : Int} (h : decOk l k m = false) : chkR l k m = false := by unfold chkR; rw [h]; rfl
theorem chkR_yes {l : List Sh} {k : Nat} {m : Int} (h : decOk l k m = true) : chkR l k m = matchB l fun j => comb k (lenH l) (codF k j) (decR l k m) := by unfold chkR; rw [h]; simp
/-- strictly increasing -/
theorem shards_lt {l : List Sh} {n : Int} (h : shardsOk l n = true) : ∀ (d i : Nat) (s s' : Sh), l[i]? = some s → l[i + d + 1]? = some s' → s.1 < s'.1
  | 0, i, s, s', hs, hs' => by
    have h1 := ((shardsOk_iff l n).1 h (i + 1) s' hs').1.1
    rw [lastNo_succ hs] at h1
    omega
  | d + 1, i, s, s', hs, hs' => by
    have hi : i + d + 1 < l.length := by have := (List.getElem?_eq_some_iff.1 hs').1; omega
    have h1 := shards_lt h d i s l[i + d + 1] hs (List.getElem?_eq_getElem hi)
    have h2 := ((shardsOk_iff l n).1 h (i + (d + 1) + 1) s' hs').1.1
    rw [show i + (d + 1) + 1 = (i + d + 1) + 1 by omega, lastNo_succ (List.getElem?_eq_getElem hi)] at h2
    omega
theorem shards_lt' {l : List Sh} {n : Int} (h : shardsOk l n = true) {i j : Nat} {s s' : Sh} (hij : i < j) (hs : l[i]? = some s) (hs' : l[j]? = some s') : s.1 < s'.1 :=
  shards_lt h (j - i - 1) i s s' hs (by rw [show i + (j - i - 1) + 1 = j by omega]; exact hs')
section
variable {l : List Sh} {n : Int} {f : Nat → List UInt8}
def mk (f : Nat → List UInt8) (j : Nat) : List Sh := (List.range j).map fun (i : Nat) => (((i : Nat) : Int), f i)
theorem mk_succ (f : Nat → List UInt8) (j : Nat) : mk f (j + 1) = mk f j ++ [((j : Int), f j)] := by simp [mk, List.range_succ]
theorem runC_inv (h : shardsOk l n = true) : ∀ (j t : Nat), runC l (mk f j) = some t → t ≤ l.length ∧ (∀ (i : Nat) (s : Sh), i < t → l[i]? = some s → s.2 = f s.1.toNat) ∧ ∀ (i : Nat) (s : Sh), t ≤ i → l[i]? = some s → (j : Int) ≤ s.1
  | 0, t, ht => by
    have : t = 0 := by simpa [runC, mk] using ht.symm
    subst this
    exact ⟨Nat.zero_le _, fun i s hi => by omega, fun i s _ hs => by have := shards_ge h i s hs; omega⟩
  | j + 1, t, ht => by
    rw [mk_succ, runC_snoc] at ht
    cases hr : runC l (mk f j) with
    | none => rw [hr] at ht; cases ht
    | some t0 =>
      rw [hr] at ht
      obtain ⟨a1, a2, a3⟩ := runC_inv h j t0 hr
      simp only [Option.bind_some, stp] at ht
      split at ht
      · cases ht
      · rename_i hne
        have hlt : t0 < l.length := by omega
        have hg : l.getD t0 (0, []) = l[t0] := by simp [List.getD, hlt]
        have hs0 : l[t0]? = some l[t0] := List.getElem?_eq_getElem hlt
        have hge := a3 t0 _ (Nat.le_refl _) hs0
        rw [hg] at ht
        split at ht
        · rename_i hx
          cases ht
          refine ⟨by omega, fun i s hi hs => ?_, fun i s hi hs => ?_⟩
          · by_cases e : i < t0
            · exact a2 i s e hs
            · obtain rfl : i = t0 := by omega
              rw [hs0] at hs
              cases hs
              rw [← hx]; simp
          · have := shards_lt' h (show t0 < i by omega) hs0 hs
            rw [← hx] at this
            simp at this
            omega
        · split at ht
          · cases ht
          · rename_i hx hx1
            cases ht
            refine ⟨a1, a2, fun i s hi hs => ?_⟩
            have h1 : (j : Int) < l[t].1 := by
              rcases Int.lt_or_eq_of_le hge with h | h
              · exact h
              · exact absurd h hx1
            by_cases e : i = t
            · subst e; rw [hs0] at hs; cases hs; omega
            · have := shards_lt' h (show t < i by omega) hs0 hs
              omega
theorem runC_done {r t : Nat} (h : shardsOk l (r : Int) = true) (ht : runC l (mk f r) = some t) : decide (t = l.length) = matchB l f := by
  obtain ⟨a1, a2, a3⟩ := runC_inv h r t ht
  have e : t = l.length := by
    rcases Nat.lt_or_ge t l.length with hlt | hge
    · have h1 := a3 t l[t] (Nat.le_refl _) (List.getElem?_eq_getElem hlt)
      have h2 := ((shardsOk_iff l (r : Int)).1 h t l[t] (List.getElem?_eq_getElem hlt)).1.2
      omega
    · omega
  have h2 : matchB l f = true := (matchB_iff l f).2 fun i s hs => a2 i s (by have := (List.getElem?_eq_some_iff.1 hs).1; omega) hs
  rw [h2]; simpa using e
theorem runC_stop {j t : Nat} (h : shardsOk l n = true) (ht : runC l (mk f j) = some t) (hs : stp l t ((j : Int), f j) = none) : decide (t = l.length) = matchB l f := by
  obtain ⟨a1, a2, a3⟩ := runC_inv h j t ht
  by_cases e : t = l.length
  · have h2 : matchB l f = true := (matchB_iff l f).2 fun i s hs => a2 i s (by have := (List.getElem?_eq_some_iff.1 hs).1; omega) hs
    rw [h2]; simpa using e
  · have hlt : t < l.length := by omega
    have hg : l.getD t (0, []) = l[t] := by simp [List.getD, hlt]
    simp only [stp, if_neg e, hg] at hs
    split at hs
    · cases hs
    · split at hs
      · rename_i hx hx1
        have h2 : matchB l f = false := by
          rw [← Bool.not_eq_true, matchB_iff]
          intro hall
          have := hall t l[t] (List.getElem?_eq_getElem hlt)
          apply hx
          rw [← hx1] at this
          simp at this hx1
          exact Prod.ext hx1 this.symm
        rw [h2]; simpa using e
      · cases hs
end
end G294

/- Any k shards determine the data, and they are found right. -/
namespace G294
/-- the shards with these numbers -/
def pickS (k n : Nat) (T : List (List UInt8)) (is : List Nat) : List Sh := is.map fun (i : Nat) => (((i : Nat) : Int), comb k n (codF k i) T)
@[simp] theorem pickS_length (k n : Nat) (T : List (List UInt8)) (is : List Nat) : (pickS k n T is).length = is.length := by simp [pickS]
theorem comb_len (c n : Nat) (f : Nat → UInt8) (T : List (List UInt8)) : (comb c n f T).length = n := by simp [comb]
theorem pickS_getD {k n : Nat} {T : List (List UInt8)} {is : List Nat} {i : Nat} (h : i < is.length) : (pickS k n T is).getD i (0, []) = (((is[i] : Nat) : Int), comb k n (codF k is[i]) T) := by simp [pickS, List.getD, h]
theorem rises_nodup {is : List Nat} {n : Nat} (h : risesB is n) : is.Nodup := h.2.imp fun h e => by omega
theorem code_fullF {k m : Nat} {F : Ents} (is : List Nat) (h : risesB is (k + m)) (hl : k ≤ is.length) (hk : k + m ≤ 256) (hF : ∀ i j (hi : i < is.length), i < k → j < k → F i j = codF k is[i] j) : (est F k k).2 = k := by
  refine rank_full (Nat.le_refl _) fun v hv => ?_
  refine code_ker (m := m) (is.take k) ((rises_nodup h).sublist (List.take_sublist _ _)) (by simp; omega) (fun x hx => h.1 x (List.mem_of_mem_take hx)) hk v (fun x hx => ?_)
  obtain ⟨i, hi, rfl⟩ := List.getElem_of_mem hx
  have hi2 : i < k ∧ i < is.length := by simp only [List.length_take] at hi; omega
  have := hv i (by omega)
  rw [← this]
  exact sumK_congr fun j hj => by rw [hF i j hi2.2 hi2.1 hj, List.getElem_take]
section
variable {k m n : Nat} {T : List (List UInt8)} {is : List Nat}
theorem pick_used {i j : Nat} (hi : i < is.length) (hik : i < k) (hj : j < k) : usedF k (pickS k n T is) i j = codF k is[i] j := by
  unfold usedF
  rw [ent_mkM _ _ _ _ _ hik hj]
  simp only [usedG, pickS_getD hi]; simp
theorem pick_usedOk (h : risesB is (k + m)) (hl : k ≤ is.length) (hk : k + m ≤ 256) : usedOk k (pickS k n T is) = true := by
  simp only [usedOk, decide_eq_true_eq]
  exact code_fullF is h hl hk fun i j hi hik hj => pick_used hi hik hj
theorem pick_txt (hl : k ≤ is.length) {j p : Nat} (hj : j < k) (hp : p < n) : ent (txtK k (pickS k n T is)) j p = sumK k fun t => gmul (codF k (is.getD j 0) t) (ent T t p) := by
  have hj' : j < is.length := by omega
  have e1 : (txtK k (pickS k n T is)).getD j [] = comb k n (codF k (is.getD j 0)) T := by
    simp [txtK, pickS, List.getD, hj', hj]
  show ((txtK k (pickS k n T is)).getD j []).getD p 0 = _
  rw [e1]
  unfold comb
  rw [mkRow_getD _ _ _ hp]
  rfl
/-- decoding gives the data back -/
theorem pick_decX (h : risesB is (k + m)) (hl : k ≤ is.length) (hk : k + m ≤ 256) (hT : T.length = k) (hn : ∀ j, j < k → (T.getD j []).length = n) : decX k n (pickS k n T is) = T := by
  unfold decX rowsT
  rw [eq_mkM hT hn]
  refine mkM_congr fun i p hi hp => ?_
  have hfull : (est (usedF k (pickS k n (mkM k n (ent T)) is)) k k).2 = k := code_fullF is h hl hk fun i j hi hik hj => pick_used hi hik hj
  unfold combF
  have e1 : ∀ j, j < k → gmul (bst (usedF k (pickS k n (mkM k n (ent T)) is)) idF k k i j) (ent (txtK k (pickS k n (mkM k n (ent T)) is)) j p) = sumK k fun t => gmul (gmul (bst (usedF k (pickS k n (mkM k n (ent T)) is)) idF k k i j) (usedF k (pickS k n (mkM k n (ent T)) is) j t)) (ent (mkM k n (ent T)) t p) := fun j hj => by
    rw [pick_txt hl hj hp, ← sumK_mul]
    refine sumK_congr fun t ht => ?_
    rw [pick_used (show j < is.length by omega) hj ht, gmul_assoc]
    congr 2
    simp [List.getD, show j < is.length by omega]
  rw [sumK_congr e1, sumK_swap]
  have e2 : ∀ t, t < k → (sumK k fun j => gmul (gmul (bst (usedF k (pickS k n (mkM k n (ent T)) is)) idF k k i j) (usedF k (pickS k n (mkM k n (ent T)) is) j t)) (ent (mkM k n (ent T)) t p)) = gmul (idF i t) (ent (mkM k n (ent T)) t p) := fun t ht => by
    rw [sumK_mulr, inv_left hfull hi ht]
  rw [sumK_congr e2, sumK_one (k := i) _ hi (fun t ht hne => by simp only [idF]; rw [if_neg (fun e => hne e.symm)]; exact zero_gmul _)]
  simp only [idF, if_true]
  rw [one_gmul, ent_mkM _ _ _ _ _ hi hp]
theorem pick_shardsOk (h : risesB is (k + m)) (hn : n ≤ 40) : shardsOk (pickS k n T is) ((k + m : Nat) : Int) = true := by
  rw [shardsOk_iff]
  intro i s hi
  have hlt : i < is.length := by have := (List.getElem?_eq_some_iff.1 hi).1; simpa using this
  have hs : s = (((is[i] : Nat) : Int), comb k n (codF k is[i]) T) := by
    have e := pickS_getD (k := k) (n := n) (T := T) hlt
    rw [List.getD, hi] at e
    simpa using e
  subst hs
  have h1 := h.1 is[i] (List.getElem_mem hlt)
  have h0 : 0 < is.length := by omega
  refine ⟨⟨?_, by simp; omega⟩, ?_, ?_⟩
  · cases i with
    | zero => simp [lastNo]; omega
    | succ i =>
      have hi' : i < is.length := by omega
      simp only [lastNo]
      rw [pickS_getD hi']
      have := (List.pairwise_iff_getElem.1 h.2) i (i + 1) hi' hlt (by omega)
      simp; omega
  · rw [pickS_getD h0]; simp only [comb_len]
  · simp only [comb_len]; exact hn
theorem pick_lenH (hl : k ≤ is.length) (hk1 : 1 ≤ k) : lenH (pickS k n T is) = n := by
  unfold lenH
  rw [pickS_getD (by omega), comb_len]
/-- k shards of a code or more: decoding tells the data, and the shards are found right -/
theorem any_few (hs : shapeOk k m = true) (h : risesB is (k + m)) (hl : k ≤ is.length) (hT : T.length = k) (hn : ∀ j, j < k → (T.getD j []).length = n) (hn40 : n ≤ 40) :
    decOk (pickS k n T is) k m = true ∧ decR (pickS k n T is) k m = T ∧ chkR (pickS k n T is) k m = true := by
  have hb := shapeOk_b hs
  have hpre : preOk (pickS k n T is) k m = true := by
    unfold preOk
    rw [hs]
    have e : ((k : Int) + (m : Int)) = ((k + m : Nat) : Int) := by omega
    rw [e, pick_shardsOk h hn40]
    simp; omega
  have hu : usedOk k (pickS k n T is) = true := pick_usedOk h hl (by omega)
  have hd : decOk (pickS k n T is) k m = true := by unfold decOk; rw [hpre, Int.toNat_natCast, hu]; rfl
  have hr : decR (pickS k n T is) k m = T := by
    unfold decR
    rw [if_pos hpre, Int.toNat_natCast, pick_lenH hl (by omega)]
    unfold decY
    rw [if_pos hu, pick_decX h hl (by omega) hT hn]
  refine ⟨hd, hr, ?_⟩
  unfold chkR
  rw [hd, hr, Bool.true_and, Int.toNat_natCast, pick_lenH hl (by omega)]
  unfold matchB
  rw [List.all_eq_true]
  intro s hs'
  obtain ⟨i, hi, rfl⟩ := List.mem_map.1 hs'
  simp
end
end G294
