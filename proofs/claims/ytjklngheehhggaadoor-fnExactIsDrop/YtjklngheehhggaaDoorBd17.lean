/- Joined texts: Remade, RebMath, MkDrp, MkDrpT, MkDrpS, TabOf, OpenMats, OpenPie. -/
import Derived.Test.YtjklngheehhggaaDoorBd16
import Derived.Test.YtjklngheehhggaaDoorBd10
import Derived.Test.YtjklngheehhggaaDoorBd04
import Derived.Test.YtjklngheehhggaaDoorBd12
import Derived.Test.YtjklngheehhggaaDoorBd09
import Derived.Test.YtjklngheehhggaaDoorRows
import Derived.Test.YtjklngheehhggaaDoorBd00
import Derived.Test.YtjklngheehhggaaDoorBd03
import Derived.Test.YtjklngheehhggaaDoorProg
import Derived.Test.YtjklngheehhggaaDoorBd02
import Derived.Deep.Matrix
import Derived.Lib.SmallJoins
set_option linter.unusedSimpArgs false
set_option linter.unusedVariables false
/- remade: the iterator over the shards that EncodeShards makes of DecodeShards. -/
namespace G294
open Go Go.RowKit
/-- the iterator's closure, and what it holds -/
def MadeIt (TM TS E EE ES : TypeId) (g : Nat) (w : World) (l : List Sh) (k m : Nat) (s : Value) (w' : World) : Prop := ∃ Bm Bt A n c At nt ct vs, s = .func (.func g) #[] #[.pointer (some ⟨Bm, 0, none⟩), .pointer (some ⟨Bt, 0, none⟩)] ∧ Boxed w' Bm TM (.slice A n c) ∧ Boxed w' Bt TS (.slice At nt ct) ∧ w.heap.size ≤ Bm ∧ w.heap.size ≤ Bt ∧
  OwnM E EE w' w.heap.size w'.heap.size (.slice A n c) (codM k m) vs ∧ OwnStrs ES w' w.heap.size w'.heap.size (.slice At nt ct) (decR l k m) ∧ TurnIn 0 0 w w'
theorem decR_row {l : List Sh} {k m : Nat} (h : decOk l k m = true) : ∀ j, j < k → ((decR l k m).getD j []).length = lenH l := fun j hj => by
  have hp : preOk l k m = true := by
    unfold decOk at h; simp only [Bool.and_eq_true] at h; exact h.1
  have hu : usedOk k l = true := by rw [decOk_yes hp] at h; exact h
  rw [decR_yes hp, decY_yes hu]
  unfold decX rowsT
  rw [mkM_getD _ _ _ _ hj, mkRow_length]
theorem decR_length {l : List Sh} {k m : Nat} (h : decOk l k m = true) : (decR l k m).length = k := by
  have hp : preOk l k m = true := by
    unfold decOk at h; simp only [Bool.and_eq_true] at h; exact h.1
  have hu : usedOk k l = true := by rw [decOk_yes hp] at h; exact h
  rw [decR_yes hp, decY_yes hu]
  unfold decX
  rw [rowsT_length]
theorem decOk_shape {l : List Sh} {k m : Int} (h : decOk l k m = true) : shapeOk k m = true := by
  unfold decOk preOk at h
  simp only [Bool.and_eq_true] at h
  exact h.1.1.1
theorem decOk_shards {l : List Sh} {k m : Int} (h : decOk l k m = true) : shardsOk l (k + m) = true := by
  unfold decOk preOk at h
  simp only [Bool.and_eq_true] at h
  exact h.1.1.2
end G294
namespace Go.Proofs.YtjklngheehhggaaDoor
open Go.RowKit Go.Shelf G294

set_option maxRecDepth 100000 in
set_option maxHeartbeats 2000000 in
theorem remade_no (v : Value) (l : List Sh) (k m : Int) (w : World) (hv : SeenH w v l) (hln : l.length ≤ 1048576) (ht : Tab w) (h0 : 1 < w.heap.size) (hd : decOk l k m = false) :
    Calls Tryd.prog 119 #[v, .int .i64 k, .int .i64 m] w fun e w' => e = .returned (.tuple #[.nilFunc, .bool false]) ∧ TurnIn 0 0 w w' := by
  have HV := Lib.hid hv
  have HTB := Lib.hid ht
  have HD := Lib.hid hd
  obtain ⟨A, cp, rfl⟩ := hv.len
  clear hv ht hd
  go_enter Tryd.func119, Tryd.ntmps119
  go_wp2_with fail
  refine (decodeShards_own _ l k m _ HV.out hln HTB.out h0).mono ?_
  rintro e w1 ⟨v1, rfl, o1, k1⟩
  obtain ⟨A1, n1, c1, rfl⟩ := o1.isSlice
  rw [HD.out]
  clear o1
  go_wp2_with fail
  go_ret2
  exact ⟨rfl, k1⟩

set_option maxRecDepth 100000 in
set_option maxHeartbeats 2000000 in
theorem remade_yes (v : Value) (l : List Sh) (p q : Nat) (w : World) (hv : SeenH w v l) (hln : l.length ≤ 1048576) (ht : Tab w) (h0 : 1 < w.heap.size) (hd : decOk l p q = true) :
    Calls Tryd.prog 119 #[v, .int .i64 p, .int .i64 q] w fun e w' => ∃ s, e = .returned (.tuple #[s, .bool true]) ∧ MadeIt 79 23 5 22 9 192 w l p q s w' := by
  have HV := Lib.hid hv
  have HTB := Lib.hid ht
  have HD := Lib.hid hd
  have HSH := Lib.hid (decOk_shape hd)
  have HR1 := Lib.hid (codR_yes (decOk_shape hd))
  obtain ⟨A, cp, rfl⟩ := hv.len
  clear hv ht hd
  go_enter Tryd.func119, Tryd.ntmps119
  go_wp2_with fail
  refine (decodeShards_own _ l p q _ HV.out hln HTB.out h0).mono ?_
  rintro e w1 ⟨v1, rfl, o1, k1⟩
  obtain ⟨A1, n1, c1, rfl⟩ := o1.isSlice
  rw [HD.out]
  have hs1 := k1.size
  have HO1 := Lib.hid o1
  clear o1
  go_wp2_with fail
  refine (codeMatrix_own p q _ (HTB.out.below k1.to_below h0) (by omega)).mono ?_
  rintro e w2 ⟨v2, vs2, rfl, hM2, k2⟩
  rw [HR1.out] at hM2
  rw [HSH.out]
  obtain ⟨A2, n2, c2, rfl⟩ := hM2.isSlice
  have hs2 := k2.size
  have a3 := turn_alloc w2 (.cells #[.slice A2 n2 c2] 79)
  have z3 := World.size_alloc w2 (.cells #[.slice A2 n2 c2] 79)
  have HM2 := Lib.hid (hM2.keep a3 (by omega))
  have HO2 := Lib.hid ((HO1.out.keep k2 (by omega)).keep a3 (by omega))
  have K13 := Lib.hid (turn_trans (turn_trans k1 k2 (by omega)) a3 (by omega))
  have hz3 : w.heap.size + 1 ≤ (w2.alloc (.cells #[.slice A2 n2 c2] 79)).heap.size := by omega
  have hz4 : w2.heap.size + 1 ≤ (w2.alloc (.cells #[.slice A2 n2 c2] 79)).heap.size := by omega
  clear hM2 z3
  go_wp2_with fail
  generalize (w2.alloc (.cells #[.slice A2 n2 c2] 79)) = w3 at *
  refine (shardsBy_any _ _ _ _ _).mono ?_
  rintro e w' ⟨rfl, rfl⟩
  go_wp2_with fail
  go_ret2
  have b1 := (Boxed.new w3 79 (.slice A2 n2 c2)).alloc (.cells #[.slice A1 n1 c1] 23)
  have b2 := Boxed.new (w3.alloc (.cells #[.slice A2 n2 c2] 79)) 23 (.slice A1 n1 c1)
  rw [World.size_alloc] at b2
  have kk : TurnIn 0 0 w3 ((w3.alloc (.cells #[.slice A2 n2 c2] 79)).alloc (.cells #[.slice A1 n1 c1] 23)) := turn_trans (turn_alloc _ _) (turn_alloc _ _) (by omega)
  refine ⟨_, rfl, w3.heap.size, w3.heap.size + 1, _, _, _, _, _, _, vs2, rfl, b1, b2, by omega, by omega, ?_, ?_, turn_trans K13.out kk (by omega)⟩
  · exact (HM2.out.keep kk (by omega)).wider (by omega) (by simp; omega) (Nat.le_refl _)
  · have o := HO2.out.keep kk (by omega)
    exact ⟨o.1, Nat.le_refl _, fun g hg => by have := o.2.2 g hg; simp; omega⟩

end Go.Proofs.YtjklngheehhggaaDoor

/- RebuildShard: its mathematics; the model's. -/
namespace G294
open Go Go.RowKit
def rebOk (l : List Sh) (k m no : Int) : Bool := decOk l k m && decide (0 ≤ no ∧ no ≤ k + m - 1)
def rebR (l : List Sh) (k m no : Int) : Sh := if rebOk l k m no = true then (no, comb k.toNat (lenH l) (codF k.toNat no.toNat) (decR l k m)) else (0, [])
theorem rebR_no {l : List Sh} {k m no : Int} (h : rebOk l k m no = false) : rebR l k m no = (0, []) := if_neg (by rw [h]; simp)
theorem rebR_yes {l : List Sh} {k : Nat} {m no : Int} (h : rebOk l k m no = true) : rebR l k m no = (no, comb k (lenH l) (codF k no.toNat) (decR l k m)) := by unfold rebR; rw [if_pos h]; simp
/-- a shard and a bool are returned -/
def RetShOk (w : World) (x : Sh) (ok : Bool) (e : Ending) (w' : World) : Prop := e = .returned (.tuple #[.agg #[.int .i64 x.1, .string (str x.2)], .bool ok]) ∧ TurnIn 0 0 w w'
theorem str_nil' : str [] = ByteArray.mk #[] := rfl
end G294
namespace Go.Proofs.YtjklngheehhggaaDoor
open Go.RowKit Go.Shelf G294

set_option maxRecDepth 100000 in
set_option maxHeartbeats 2000000 in
theorem sRebuildShard_own (v : Value) (l : List Sh) (k m no : Int) (w : World) (hv : SeenH w v l) :
    Calls Tryd.prog 54 #[v, .int .i64 k, .int .i64 m, .int .i64 no] w (RetShOk w (rebR l k m no) (rebOk l k m no)) := by
  have HV := Lib.hid hv
  obtain ⟨A, cp, rfl⟩ := hv.len
  clear hv
  have a1 := turn_alloc w (.cells #[.int .i64 0, .string ⟨#[]⟩] 87)
  have z1 := World.size_alloc w (.cells #[.int .i64 0, .string ⟨#[]⟩] 87)
  have c0 : (w.alloc (.cells #[.int .i64 0, .string ⟨#[]⟩] 87)).cell? ⟨w.heap.size, 0, none⟩ = some (.int .i64 0) := by simp
  have c1 : (w.alloc (.cells #[.int .i64 0, .string ⟨#[]⟩] 87)).cell? ⟨w.heap.size, 1, none⟩ = some (.string ⟨#[]⟩) := by simp
  have f0 : (w.alloc (.cells #[.int .i64 0, .string ⟨#[]⟩] 87)).frozen? ⟨w.heap.size, 0, none⟩ = false := by simp
  have f1 : (w.alloc (.cells #[.int .i64 0, .string ⟨#[]⟩] 87)).frozen? ⟨w.heap.size, 1, none⟩ = false := by simp
  by_cases hd : decOk l k m = true
  · have HD := Lib.hid hd
    have hbs := shapeOk_b (decOk_shape hd)
    have h40 := shards_40 (decOk_shards hd)
    obtain ⟨p, rfl⟩ := Int.eq_ofNat_of_zero_le (show 0 ≤ k by omega)
    obtain ⟨q, rfl⟩ := Int.eq_ofNat_of_zero_le (show 0 ≤ m by omega)
    have HDL := Lib.hid (decR_length hd)
    have HDR := Lib.hid (decR_row hd)
    clear hd
    by_cases hin : decide (0 ≤ no ∧ no ≤ (p : Int) + q - 1) = true
    · have HI : Hid (inB no 0 ((p : Int) + q - 1) = true) := hin
      have hb : 0 ≤ no ∧ no ≤ (p : Int) + q - 1 := by simpa using hin
      have hok : rebOk l p q no = true := by unfold rebOk; rw [HD.out, hin]; rfl
      have HO := Lib.hid hok
      have HR := Lib.hid (rebR_yes hok)
      clear hin hok
      obtain ⟨t, rfl⟩ := Int.eq_ofNat_of_zero_le hb.1
      go_enter Tryd.func54, Tryd.ntmps54
      go_wp2_with fail
      generalize (w.alloc (.cells #[.int .i64 0, .string ⟨#[]⟩] 87)) = wa at *
      refine (sDecodeShards_own _ l p q _ (HV.out.below a1.to_below)).mono ?_
      rintro e w1 ⟨v1, rfl, o1, k1⟩
      obtain ⟨A1, n1, c1', rfl⟩ := o1.isSlice
      rw [HD.out]
      have hs1 := k1.size
      go_wp2_with fail
      refine (l1In_any _ _ _ _).mono ?_
      rintro e w' ⟨rfl, rfl⟩
      rw [HI.out]
      have HO1 := Lib.hid o1
      clear o1
      go_wp2_with fail
      refine (l3Matrix_own p q _ (by omega) (by omega) (by omega) (by omega)).mono ?_
      rintro e w2 ⟨v2, vs2, rfl, hM2, k2⟩
      obtain ⟨A2, n2, c2, rfl⟩ := hM2.isSlice
      have hs2 := k2.size
      have HM2 := Lib.hid hM2
      have HO2 := Lib.hid (HO1.out.keep k2 (by omega))
      clear hM2
      go_wp2_with fail
      refine (l3Rows_own (p + q) p (lenH l) (codF p) (decR l p q) _ _ _ HM2.out.seen HO2.out.seen HDL.out (by omega) (by omega) (by omega) HDR.out (by omega)).mono ?_
      rintro e w3 ⟨v3, rfl, o3, k3⟩
      have hs3 := k3.size
      have kk := turn_trans (turn_trans k1 k2 (by omega)) k3 (by omega)
      have d0 := cell_turn kk c0 (by omega)
      have d1 := cell_turn kk c1 (by omega)
      have e0 := frozen_turn kk f0 (by omega)
      have e1 := frozen_turn kk f1 (by omega)
      have htl : t < (rowsT (p + q) p (lenH l) (codF p) (decR l p q)).length := by rw [rowsT_length]; omega
      obtain ⟨A3, c3, hv3, _, hcm3, hx3⟩ := o3.seen
      rw [strs_length, rowsT_length] at hv3
      obtain ⟨b3, off3, rfl, hb3, hc3⟩ := hx3 (by rw [strs_length]; omega)
      have hct := hc3 t _ (strs_get _ t htl)
      have hrow : (rowsT (p + q) p (lenH l) (codF p) (decR l p q))[t] = comb p (lenH l) (codF p t) (decR l p q) := by
        simp [rowsT, mkM, comb]
      rw [hrow] at hct
      subst hv3
      unfold maxLen at hcm3
      have ht0 : (0 : Int) ≤ (t : Int) := by omega
      have ht1 : (t : Int) < ((p + q : Nat) : Int) := by omega
      have KF := Lib.hid (turn_trans a1 kk (by omega))
      clear hx3 hc3 hrow htl o3 kk k1 k2 k3
      generalize htx : comb p (lenH l) (codF p t) (decR l p q) = tx at *
      have HTX := Lib.hid htx
      clear htx
      go_wp2_with fail
      refine bodyPost_ret (v := .tuple #[.agg #[.int .i64 t, .string (str tx)], .bool true]) (by simp [results, Tryd.results54, go_sem, d0, d1]) rfl ?_
      refine ⟨by rw [HR.out, HO.out, ← HTX.out, Int.toNat_natCast], TurnIn.of_below ?_⟩
      exact ((KF.out.to_below.setCell (p := ⟨w.heap.size, 0, none⟩) (Nat.le_refl _) _).setCell (p := ⟨w.heap.size, 1, none⟩) (Nat.le_refl _) _)
    · have hin' : decide (0 ≤ no ∧ no ≤ (p : Int) + q - 1) = false := by simpa using hin
      have HI : Hid (inB no 0 ((p : Int) + q - 1) = false) := hin'
      have hok : rebOk l p q no = false := by unfold rebOk; rw [hin']; simp
      have HO := Lib.hid hok
      have HR := Lib.hid (rebR_no hok)
      clear hin hin' hok
      go_enter Tryd.func54, Tryd.ntmps54
      go_wp2_with fail
      generalize (w.alloc (.cells #[.int .i64 0, .string ⟨#[]⟩] 87)) = wa at *
      refine (sDecodeShards_own _ l p q _ (HV.out.below a1.to_below)).mono ?_
      rintro e w1 ⟨v1, rfl, o1, k1⟩
      obtain ⟨A1, n1, c1', rfl⟩ := o1.isSlice
      rw [HD.out]
      clear o1
      go_wp2_with fail
      refine (l1In_any _ _ _ _).mono ?_
      rintro e w' ⟨rfl, rfl⟩
      rw [HI.out]
      have d0 := cell_turn k1 c0 (by omega)
      have d1 := cell_turn k1 c1 (by omega)
      have e0 := frozen_turn k1 f0 (by omega)
      have e1 := frozen_turn k1 f1 (by omega)
      have KF := Lib.hid (turn_trans a1 k1 (by omega))
      clear k1
      go_wp2_with fail
      refine bodyPost_ret (v := .tuple #[.agg #[.int .i64 0, .string ⟨#[]⟩], .bool false]) (by simp [results, Tryd.results54, go_sem, d0, d1]) rfl ?_
      refine ⟨by rw [HR.out, HO.out]; rfl, TurnIn.of_below ?_⟩
      exact ((KF.out.to_below.setCell (p := ⟨w.heap.size, 0, none⟩) (Nat.le_refl _) _).setCell (p := ⟨w.heap.size, 1, none⟩) (Nat.le_refl _) _)
  · have hd' : decOk l k m = false := by simpa using hd
    have HD := Lib.hid hd'
    have hok : rebOk l k m no = false := by unfold rebOk; rw [hd']; simp
    have HO := Lib.hid hok
    have HR := Lib.hid (rebR_no hok)
    clear hd hd' hok
    go_enter Tryd.func54, Tryd.ntmps54
    go_wp2_with fail
    generalize (w.alloc (.cells #[.int .i64 0, .string ⟨#[]⟩] 87)) = wa at *
    refine (sDecodeShards_own _ l k m _ (HV.out.below a1.to_below)).mono ?_
    rintro e w1 ⟨v1, rfl, o1, k1⟩
    obtain ⟨A1, n1, c1', rfl⟩ := o1.isSlice
    rw [HD.out]
    clear o1
    have d0 := cell_turn k1 c0 (by omega)
    have d1 := cell_turn k1 c1 (by omega)
    have e0 := frozen_turn k1 f0 (by omega)
    have e1 := frozen_turn k1 f1 (by omega)
    have KF := Lib.hid (turn_trans a1 k1 (by omega))
    clear k1
    go_wp2_with fail
    refine bodyPost_ret (v := .tuple #[.agg #[.int .i64 0, .string ⟨#[]⟩], .bool false]) (by simp [results, Tryd.results54, go_sem, d0, d1]) rfl ?_
    refine ⟨by rw [HR.out, HO.out]; rfl, TurnIn.of_below ?_⟩
    exact ((KF.out.to_below.setCell (p := ⟨w.heap.size, 0, none⟩) (Nat.le_refl _) _).setCell (p := ⟨w.heap.size, 1, none⟩) (Nat.le_refl _) _)

end Go.Proofs.YtjklngheehhggaaDoor

/- Chapter 9: MakeDrop, the program's and the model's. -/
namespace G294
open Go Go.RowKit
theorem drpOk_b {L : List (List UInt8)} {s : Int} (h : drpOk L s = true) : (0 ≤ s ∧ s ≤ 100000) ∧ (1 ≤ L.length ∧ L.length ≤ 12) ∧ textsOk L = true := by
  simp only [drpOk, bksOk, Bool.and_eq_true] at h
  have h1 := seedOk_b h.1
  have h2 := bcOk_b h.2.1
  exact ⟨h1, by omega, h.2.2⟩
theorem drpR_no {L : List (List UInt8)} {s : Int} (h : drpOk L s = false) : drpR L s = (0, []) := if_neg (by rw [h]; decide)
theorem drpR_yes {L : List (List UInt8)} {s : Nat} (h : drpOk L s = true) : drpR L s = ((s : Int), sumD s L) := by unfold drpR; rw [if_pos h]; simp
end G294
namespace Go.Proofs.YtjklngheehhggaaDoor
open Go.RowKit G294

set_option maxHeartbeats 400000 in
theorem goodBlocks_any (v : Value) (L : List (List UInt8)) (w : World) (hv : Seen w v (strs L)) : Calls Tryd.prog 73 #[v] w fun e w' => e = .returned (.bool (bksOk L)) ∧ w = w' := by
  have HV := Lib.hid hv
  obtain ⟨A, c, hvv⟩ := hv.len
  rw [strs_length] at hvv
  subst hvv
  clear hv
  have HE : Hid (bksOk L = (bcOk L.length && textsOk L)) := Lib.hid rfl
  by_cases h : bcOk L.length = true
  · have H := Lib.hid h
    clear h
    go_enter Tryd.func73, Tryd.ntmps73
    go_wp2_with fail
    refine (goodBlockCount_any _ _).mono ?_
    rintro e w' ⟨rfl, rfl⟩
    rw [H.out]
    go_wp2_with fail
    refine (equallyLong_any _ L _ HV.out).mono ?_
    rintro e w' ⟨rfl, rfl⟩
    go_wp2_with fail
    go_ret
    exact ⟨by rw [HE.out, H.out]; rfl, rfl⟩
  · have H : Hid (bcOk L.length = false) := by show bcOk L.length = false; simpa using h
    clear h
    go_enter Tryd.func73, Tryd.ntmps73
    go_wp2_with fail
    refine (goodBlockCount_any _ _).mono ?_
    rintro e w' ⟨rfl, rfl⟩
    rw [H.out]
    go_wp2_with fail
    go_ret
    exact ⟨by rw [HE.out, H.out]; rfl, rfl⟩

set_option maxHeartbeats 400000 in
theorem l9Good_any (v : Value) (L : List (List UInt8)) (w : World) (hv : Seen w v (strs L)) : Calls Tryd.prog 76 #[v] w fun e w' => e = .returned (.bool (bksOk L)) ∧ w = w' := by
  have HV := Lib.hid hv
  obtain ⟨A, c, hvv⟩ := hv.len
  rw [strs_length] at hvv
  subst hvv
  clear hv
  have HE : Hid (bksOk L = (inB L.length 1 12 && textsOk L)) := Lib.hid rfl
  by_cases h : inB L.length 1 12 = true
  · have H := Lib.hid h
    clear h
    go_enter Tryd.func76, Tryd.ntmps76
    go_wp2_with fail
    refine (l1In_any _ _ _ _).mono ?_
    rintro e w' ⟨rfl, rfl⟩
    rw [H.out]
    go_wp2_with fail
    refine (l3Texts_any _ L _ HV.out).mono ?_
    rintro e w' ⟨rfl, rfl⟩
    go_wp2_with fail
    go_ret
    exact ⟨by rw [HE.out, H.out]; rfl, rfl⟩
  · have H : Hid (inB L.length 1 12 = false) := by show inB L.length 1 12 = false; simpa using h
    clear h
    go_enter Tryd.func76, Tryd.ntmps76
    go_wp2_with fail
    refine (l1In_any _ _ _ _).mono ?_
    rintro e w' ⟨rfl, rfl⟩
    rw [H.out]
    go_wp2_with fail
    go_ret
    exact ⟨by rw [HE.out, H.out]; rfl, rfl⟩

set_option maxRecDepth 100000 in
set_option maxHeartbeats 2000000 in
theorem makeDrop_own (v : Value) (L : List (List UInt8)) (s : Int) (w : World) (hv : Seen w v (strs L)) (ht : Tab w) (h0 : 1 < w.heap.size) :
    Calls Tryd.prog 11 #[v, .int .i64 s] w (RetShOk w (drpR L s) (drpOk L s)) := by
  have a1 := turn_alloc w (.cells #[.int .i64 0, .string ⟨#[]⟩] 27)
  have z1 := World.size_alloc w (.cells #[.int .i64 0, .string ⟨#[]⟩] 27)
  have c0 : (w.alloc (.cells #[.int .i64 0, .string ⟨#[]⟩] 27)).cell? ⟨w.heap.size, 0, none⟩ = some (.int .i64 0) := by simp
  have c1 : (w.alloc (.cells #[.int .i64 0, .string ⟨#[]⟩] 27)).cell? ⟨w.heap.size, 1, none⟩ = some (.string ⟨#[]⟩) := by simp
  have f0 : (w.alloc (.cells #[.int .i64 0, .string ⟨#[]⟩] 27)).frozen? ⟨w.heap.size, 0, none⟩ = false := by simp
  have f1 : (w.alloc (.cells #[.int .i64 0, .string ⟨#[]⟩] 27)).frozen? ⟨w.heap.size, 1, none⟩ = false := by simp
  have HV := Lib.hid (hv.touch a1)
  have HT := Lib.hid (ht.below a1.to_below h0)
  have HA := Lib.hid a1
  obtain ⟨A, c, hvv⟩ := hv.len
  rw [strs_length] at hvv
  subst hvv
  clear hv ht a1
  by_cases h1 : seedOk s = true
  · have hs := seedOk_b h1
    have H1 := Lib.hid h1
    obtain ⟨s, rfl⟩ := Int.eq_ofNat_of_zero_le hs.1
    by_cases h2 : bksOk L = true
    · have H2 := Lib.hid h2
      have hok : drpOk L s = true := by simp [drpOk, h1, h2]
      obtain ⟨_, hlb, htx⟩ := drpOk_b hok
      have HO := Lib.hid hok
      have HR := Lib.hid (drpR_yes hok)
      have HTX := Lib.hid htx
      have H40 := Lib.hid (textsOk_first htx)
      have HS : Hid (sumD s L = comb L.length (L.getD 0 []).length (rowB (inF s L.length)) L) := Lib.hid rfl
      clear hok h1 h2 htx
      obtain ⟨b, hb⟩ : ∃ b, b = L.length := ⟨_, rfl⟩
      have HB := Lib.hid hb
      rw [← hb] at HV HS hlb ⊢
      clear hb
      obtain ⟨hlb1, hlb2⟩ := hlb
      go_enter Tryd.func11, Tryd.ntmps11
      go_wp2_with fail
      generalize (w.alloc (.cells #[.int .i64 0, .string ⟨#[]⟩] 27)) = wa at *
      refine (goodSeed_any _ _).mono ?_
      rintro e w' ⟨rfl, rfl⟩
      rw [H1.out]
      go_wp2_with fail
      refine (goodBlocks_any _ L _ HV.out).mono ?_
      rintro e w' ⟨rfl, rfl⟩
      rw [H2.out]
      go_wp2_with fail
      refine (dropRow_own s b _ (by omega) hlb1 hlb2).mono ?_
      rintro e w1 ⟨v1, rfl, o1, k1⟩
      have s1 := k1.size
      have HT1 := Lib.hid (HT.out.below k1.to_below (by omega))
      have HV1 := Lib.hid (HV.out.touch k1)
      replace c0 := cell_turn k1 c0 (by omega)
      replace c1 := cell_turn k1 c1 (by omega)
      replace f0 := frozen_turn k1 f0 (by omega)
      replace f1 := frozen_turn k1 f1 (by omega)
      go_wp2_with fail
      refine (combined_own b (L.getD 0 []).length (rowB (inF s b)) L _ _ _ o1.seen HV1.out HB.out.symm hlb1 (by omega) (fun j hj => textsOk_at HTX.out j (by rw [← HB.out]; exact hj)) (by have := H40.out; omega) HT1.out (by omega)).mono ?_
      rintro e w2 ⟨rfl, k2⟩
      rw [← HS.out]
      have s2 := k2.size
      replace c0 := cell_turn k2 c0 (by omega)
      replace c1 := cell_turn k2 c1 (by omega)
      replace f0 := frozen_turn k2 f0 (by omega)
      replace f1 := frozen_turn k2 f1 (by omega)
      generalize hx : sumD s L = x at *
      have HX := Lib.hid hx
      have hb1 := (turn_trans (turn_trans HA.out k1 (by omega)) k2 (by omega)).to_below
      have d0 := World.cell?_setCell_same w2 ⟨w.heap.size, 0, none⟩ (.int .i64 (s : Int)) c0
      clear hx o1
      go_wp2_with fail
      refine bodyPost_ret (v := .tuple #[.agg #[.int .i64 (s : Int), .string (str x)], .bool true]) (by simp [results, Tryd.results11, go_sem, c0, c1, f0, f1]) rfl ?_
      refine ⟨by rw [HO.out, HR.out], TurnIn.of_below ?_⟩
      exact (hb1.setCell (p := ⟨w.heap.size, 0, none⟩) (Nat.le_refl _) _).setCell (p := ⟨w.heap.size, 1, none⟩) (Nat.le_refl _) _
    · have H2 : Hid (bksOk L = false) := by show bksOk L = false; simpa using h2
      have hok : drpOk L s = false := by simp [drpOk, H2.out]
      have HO := Lib.hid hok
      have HR := Lib.hid (drpR_no hok)
      clear h1 h2 hok
      go_enter Tryd.func11, Tryd.ntmps11
      go_wp2_with fail
      generalize (w.alloc (.cells #[.int .i64 0, .string ⟨#[]⟩] 27)) = wa at *
      refine (goodSeed_any _ _).mono ?_
      rintro e w' ⟨rfl, rfl⟩
      rw [H1.out]
      go_wp2_with fail
      refine (goodBlocks_any _ L _ HV.out).mono ?_
      rintro e w' ⟨rfl, rfl⟩
      rw [H2.out]
      go_wp2_with fail
      refine bodyPost_ret (v := .tuple #[.agg #[.int .i64 0, .string (str [])], .bool false]) (by simp [results, Tryd.results11, go_sem, c0, c1, f0, f1]; rfl) rfl ?_
      refine ⟨by rw [HO.out, HR.out], TurnIn.of_below ?_⟩
      exact (HA.out.to_below.setCell (p := ⟨w.heap.size, 0, none⟩) (Nat.le_refl _) _).setCell (p := ⟨w.heap.size, 1, none⟩) (Nat.le_refl _) _
  · have H1 : Hid (seedOk s = false) := by show seedOk s = false; simpa using h1
    have hok : drpOk L s = false := by simp [drpOk, H1.out]
    have HO := Lib.hid hok
    have HR := Lib.hid (drpR_no hok)
    clear h1 hok
    go_enter Tryd.func11, Tryd.ntmps11
    go_wp2_with fail
    generalize (w.alloc (.cells #[.int .i64 0, .string ⟨#[]⟩] 27)) = wa at *
    refine (goodSeed_any _ _).mono ?_
    rintro e w' ⟨rfl, rfl⟩
    rw [H1.out]
    go_wp2_with fail
    refine bodyPost_ret (v := .tuple #[.agg #[.int .i64 0, .string (str [])], .bool false]) (by simp [results, Tryd.results11, go_sem, c0, c1, f0, f1]; rfl) rfl ?_
    refine ⟨by rw [HO.out, HR.out], TurnIn.of_below ?_⟩
    exact (HA.out.to_below.setCell (p := ⟨w.heap.size, 0, none⟩) (Nat.le_refl _) _).setCell (p := ⟨w.heap.size, 1, none⟩) (Nat.le_refl _) _

end Go.Proofs.YtjklngheehhggaaDoor

/- Chapter 9: small facts of lists. -/
namespace G294
open Go Go.RowKit
theorem getD_lt {α : Type} {l : List α} {k : Nat} (h : k < l.length) (d : α) : l.getD k d = l[k] := by simp [List.getD, h]
theorem addN_take (B : List (List UInt8)) (ks : List Nat) (o : List UInt8) (k : Nat) (h : k < ks.length) : addN B (ks.take (k + 1)) o = plusL (addN B (ks.take k) o) 1 (B.getD (ks.getD k 0) []) := by
  have e : ks.take (k + 1) = ks.take k ++ [ks.getD k 0] := by rw [List.take_add_one, List.getElem?_eq_getElem h]; simp [List.getD, h]
  rw [e, addN_snoc]
end G294

/- Chapter 9: MakeDrop: the model's. -/
namespace G294
open Go Go.RowKit
theorem bys_rep (n : Nat) : bys (List.replicate n 0) = List.replicate n (.int .u8 0) := by simp [bys]
end G294
namespace Go.Proofs.YtjklngheehhggaaDoor
open Go.RowKit G294

set_option maxRecDepth 100000 in
set_option maxHeartbeats 2000000 in
theorem l9Sum_own (v u : Value) (L : List (List UInt8)) (ks : List Nat) (n : Nat) (w : World) (hv : Seen w v (strs L)) (hu : Seen w u (ints (intL ks))) (hL : 1 ≤ L.length) (hn : ∀ j, j < L.length → (L.getD j []).length = n) (hn40 : n ≤ 1000) (hk : ∀ i, i < ks.length → ks.getD i 0 < L.length) (hkl : ks.length ≤ 1000) (hLl : L.length ≤ 1000) :
    Calls Tryd.prog 78 #[v, u] w (RetStr w (addN L ks (List.replicate n 0))) := by
  obtain ⟨i0, hi0, hz0, hz1, hz2⟩ := info_parts infoByte
  obtain ⟨A, c, rfl, hlc, hcm, hx⟩ := hv
  obtain ⟨A', c', rfl, hlc', hcm', hx'⟩ := hu
  rw [strs_length] at hlc hx
  rw [ints_length, intL_length] at hlc' hx'
  simp only [strs_length, ints_length, intL_length]
  unfold maxLen at hcm hcm'
  obtain ⟨b, off, rfl, hbl, hcell⟩ := hx hL
  have hc0 := hcell 0 _ (strs_get L 0 (by omega))
  rw [Nat.add_zero, ← getD_lt (by omega) []] at hc0
  have hs0 : (str (L.getD 0 [])).size = n := by rw [str_size]; exact hn 0 hL
  generalize L.getD 0 [] = t0 at hc0 hs0
  have HN := Lib.hid hn
  have HK := Lib.hid hk
  have HT : Hid (∀ k, k < ks.length → addN L (ks.take (k + 1)) (List.replicate n 0) = plusL (addN L (ks.take k) (List.replicate n 0)) 1 (L.getD (ks.getD k 0) [])) := Lib.hid (fun k h => addN_take L ks _ k h)
  have HCL : Hid (∀ j, j < L.length → w.cell? ⟨b, off + j, none⟩ = some (.string (str (L.getD j [])))) := Lib.hid (fun j hj => by rw [getD_lt hj []]; exact hcell j _ (strs_get L j hj))
  have HZ : Hid (addN L (ks.take 0) (List.replicate n 0) = List.replicate n 0) := Lib.hid rfl
  have HE : Hid (addN L (ks.take ks.length) (List.replicate n 0) = addN L ks (List.replicate n 0)) := Lib.hid (by rw [List.take_length])
  have HGL : Hid (∀ k, (addN L (ks.take k) (List.replicate n 0)).length = n) := Lib.hid (fun k => by simp)
  generalize hg : (fun k => addN L (ks.take k) (List.replicate n 0)) = G at *
  have HG : Hid (∀ k, addN L (ks.take k) (List.replicate n 0) = G k) := Lib.hid (fun k => by rw [← hg])
  rw [← HE.out]
  simp only [HG.out] at HT HZ HE HGL ⊢
  clear hcell hx hn hk hg HG HE
  have hbm := bys_rep n
  go_enter Tryd.func78, Tryd.ntmps78
  go_wp2_with (at_make; refine wpList_make_full _ rfl _ _ _ rfl w.heap.size _ i0 _ 1 Tryd.underlying22 hi0 hz0 hz1 _ _ _ _ n rfl rfl rfl rfl ?b2 ?b3 ?b4 ?_)
  case b2 => rw [hz2]; omega
  case b3 => unfold maxLen; omega
  case b4 => exact Nat.le_refl _
  intro w1 hown1 hg1
  have hb1 : Below w.heap.size w w1 := below_of_grown hg1 (Nat.le_refl _) (by simp)
  rw [toList_madeCells_one] at hown1
  rw [← hbm] at hown1
  have hseen := Seen.of_own hown1
  rw [← HZ.out] at hseen
  have hconv := run_string_seen (P := Tryd.prog) 22 5 9 Tryd.underlying22 Tryd.underlying5 Tryd.underlying9 hseen
  clear hg1 hown1 hseen hbm HZ
  go_wp2_with fail
  go_loopw [5, 16] (fun o i wr => ∃ k : Nat, k ≤ ks.length ∧ i = .int .i64 k ∧ o = .string (str (G k)) ∧ Below w.heap.size w wr)
    (fun _ i _ => ks.length - (intOf i).toNat)
  case atStart => exact ⟨0, Nat.zero_le _, rfl, rfl, hb1⟩
  case round =>
    obtain ⟨k, hk, rfl, rfl, hb⟩ := hrel
    clear hconv hb1
    by_cases hlt : k < ks.length
    · obtain ⟨b', off', rfl, hbl', hcell'⟩ := hx' (by omega)
      have hcx := (hb.cell (p := ⟨b', off' + k, none⟩) hbl').trans (hcell' k _ (intL_get ks k hlt))
      have hq := HK.out k hlt
      have HS := Lib.hid (HT.out k hlt)
      generalize ks.getD k 0 = q at *
      have hcy := (hb.cell (p := ⟨b, off + q, none⟩) hbl).trans (HCL.out q hq)
      have hqi : (q : Int) < (L.length : Int) := by omega
      have hki : (k : Int) < (ks.length : Int) := by omega
      have HP : Hid (∀ W, Calls Tryd.prog 102 #[.string (str (G k)), .int .u8 1, .string (str (L.getD q []))] W (RetStr W (G (k + 1)))) := Lib.hid (fun W => by
        rw [HS.out]; exact l6Plus_own (G k) (L.getD q []) 1 W (by rw [HN.out q hq, HGL.out]) (by rw [HGL.out]; exact hn40))
      generalize L.getD q [] = y at *
      clear hcell' hx'
      go_wp2_with fail
      refine (HP.out _).mono ?_
      rintro e w2 ⟨rfl, k2⟩
      have hb2 := k2.base hb hb.size (by omega)
      go_wp2_with fail
      go_roundw
      case rel => exact ⟨k + 1, by omega, by go_num, rfl, hb2⟩
      case measure => simp [intOf]; omega
    · have hke : k = ks.length := by omega
      have hki : ¬ (k : Int) < (ks.length : Int) := by omega
      go_wp2_with fail
      go_ret
      exact ⟨by rw [← hke]; rfl, TurnIn.of_below hb⟩

set_option maxRecDepth 100000 in
set_option maxHeartbeats 2000000 in
theorem sMakeDrop_own (v : Value) (L : List (List UInt8)) (s : Int) (w : World) (hv : Seen w v (strs L)) :
    Calls Tryd.prog 12 #[v, .int .i64 s] w (RetShOk w (drpR L s) (drpOk L s)) := by
  have a1 := turn_alloc w (.cells #[.int .i64 0, .string ⟨#[]⟩] 27)
  have z1 := World.size_alloc w (.cells #[.int .i64 0, .string ⟨#[]⟩] 27)
  have c0 : (w.alloc (.cells #[.int .i64 0, .string ⟨#[]⟩] 27)).cell? ⟨w.heap.size, 0, none⟩ = some (.int .i64 0) := by simp
  have c1 : (w.alloc (.cells #[.int .i64 0, .string ⟨#[]⟩] 27)).cell? ⟨w.heap.size, 1, none⟩ = some (.string ⟨#[]⟩) := by simp
  have f0 : (w.alloc (.cells #[.int .i64 0, .string ⟨#[]⟩] 27)).frozen? ⟨w.heap.size, 0, none⟩ = false := by simp
  have f1 : (w.alloc (.cells #[.int .i64 0, .string ⟨#[]⟩] 27)).frozen? ⟨w.heap.size, 1, none⟩ = false := by simp
  have HV := Lib.hid (hv.touch a1)
  have HA := Lib.hid a1
  obtain ⟨A, c, hvv⟩ := hv.len
  rw [strs_length] at hvv
  subst hvv
  clear hv a1
  by_cases h2 : bksOk L = true
  · have H2 := Lib.hid h2
    by_cases h1 : seedOk s = true
    · have hs := seedOk_b h1
      have H1 := Lib.hid h1
      obtain ⟨s, rfl⟩ := Int.eq_ofNat_of_zero_le hs.1
      have hok : drpOk L s = true := by simp [drpOk, h1, h2]
      obtain ⟨_, hlb, htx⟩ := drpOk_b hok
      have HO := Lib.hid hok
      have HR := Lib.hid (drpR_yes hok)
      have HTX := Lib.hid htx
      have H40 := Lib.hid (textsOk_first htx)
      have HS := Lib.hid (sumD_addN s L)
      have HLB := Lib.hid hlb
      clear hok h1 h2 htx
      go_enter Tryd.func12, Tryd.ntmps12
      go_wp2_with fail
      generalize (w.alloc (.cells #[.int .i64 0, .string ⟨#[]⟩] 27)) = wa at *
      refine (l9Good_any _ L _ HV.out).mono ?_
      rintro e w' ⟨rfl, rfl⟩
      rw [H2.out]
      go_wp2_with fail
      refine (l9Seed_any _ _).mono ?_
      rintro e w' ⟨rfl, rfl⟩
      rw [H1.out]
      go_wp2_with fail
      refine (l9Blocks_own s L.length _ (by omega) HLB.out.1 HLB.out.2).mono ?_
      rintro e w1 ⟨v1, rfl, o1, k1⟩
      have s1 := k1.size
      have HV1 := Lib.hid (HV.out.touch k1)
      replace c0 := cell_turn k1 c0 (by omega)
      replace c1 := cell_turn k1 c1 (by omega)
      replace f0 := frozen_turn k1 f0 (by omega)
      replace f1 := frozen_turn k1 f1 (by omega)
      have HO1 := Lib.hid o1
      clear o1
      go_wp2_with fail
      refine (l9Sum_own _ _ L (blkN s L.length) (L.getD 0 []).length _ HV1.out HO1.out.seen HLB.out.1 (fun j hj => textsOk_at HTX.out j hj) (by have := H40.out; omega) (fun i hi => (blkK_mem.1 (show (blkN s L.length).getD i 0 ∈ blkK _ _ by rw [getD_lt hi 0]; exact List.getElem_mem hi)).1) (by have := blkK_len (inF s L.length) L.length; have := HLB.out; show (blkK _ _).length ≤ _; omega) (by omega)).mono ?_
      rintro e w2 ⟨rfl, k2⟩
      rw [HS.out]
      have s2 := k2.size
      replace c0 := cell_turn k2 c0 (by omega)
      replace c1 := cell_turn k2 c1 (by omega)
      replace f0 := frozen_turn k2 f0 (by omega)
      replace f1 := frozen_turn k2 f1 (by omega)
      generalize hx : sumD s L = x at *
      have HX := Lib.hid hx
      have hb1 := (turn_trans (turn_trans HA.out k1 (by omega)) k2 (by omega)).to_below
      clear hx
      go_wp2_with fail
      refine bodyPost_ret (v := .tuple #[.agg #[.int .i64 (s : Int), .string (str x)], .bool true]) (by simp [results, Tryd.results12, go_sem, c0, c1, f0, f1]) rfl ?_
      refine ⟨by rw [HO.out, HR.out], TurnIn.of_below ?_⟩
      exact (hb1.setCell (p := ⟨w.heap.size, 0, none⟩) (Nat.le_refl _) _).setCell (p := ⟨w.heap.size, 1, none⟩) (Nat.le_refl _) _
    · have H1 : Hid (seedOk s = false) := by show seedOk s = false; simpa using h1
      have hok : drpOk L s = false := by simp [drpOk, H1.out]
      have HO := Lib.hid hok
      have HR := Lib.hid (drpR_no hok)
      clear h1 h2 hok
      go_enter Tryd.func12, Tryd.ntmps12
      go_wp2_with fail
      generalize (w.alloc (.cells #[.int .i64 0, .string ⟨#[]⟩] 27)) = wa at *
      refine (l9Good_any _ L _ HV.out).mono ?_
      rintro e w' ⟨rfl, rfl⟩
      rw [H2.out]
      go_wp2_with fail
      refine (l9Seed_any _ _).mono ?_
      rintro e w' ⟨rfl, rfl⟩
      rw [H1.out]
      go_wp2_with fail
      refine bodyPost_ret (v := .tuple #[.agg #[.int .i64 0, .string (str [])], .bool false]) (by simp [results, Tryd.results12, go_sem, c0, c1, f0, f1]; rfl) rfl ?_
      refine ⟨by rw [HO.out, HR.out], TurnIn.of_below ?_⟩
      exact (HA.out.to_below.setCell (p := ⟨w.heap.size, 0, none⟩) (Nat.le_refl _) _).setCell (p := ⟨w.heap.size, 1, none⟩) (Nat.le_refl _) _
  · have H2 : Hid (bksOk L = false) := by show bksOk L = false; simpa using h2
    have hok : drpOk L s = false := by simp [drpOk, H2.out]
    have HO := Lib.hid hok
    have HR := Lib.hid (drpR_no hok)
    clear h2 hok
    go_enter Tryd.func12, Tryd.ntmps12
    go_wp2_with fail
    generalize (w.alloc (.cells #[.int .i64 0, .string ⟨#[]⟩] 27)) = wa at *
    refine (l9Good_any _ L _ HV.out).mono ?_
    rintro e w' ⟨rfl, rfl⟩
    rw [H2.out]
    go_wp2_with fail
    refine bodyPost_ret (v := .tuple #[.agg #[.int .i64 0, .string (str [])], .bool false]) (by simp [results, Tryd.results12, go_sem, c0, c1, f0, f1]; rfl) rfl ?_
    refine ⟨by rw [HO.out, HR.out], TurnIn.of_below ?_⟩
    exact (HA.out.to_below.setCell (p := ⟨w.heap.size, 0, none⟩) (Nat.le_refl _) _).setCell (p := ⟨w.heap.size, 1, none⟩) (Nat.le_refl _) _

end Go.Proofs.YtjklngheehhggaaDoor

/- The table of remainders, out of what a row lays. -/
namespace Go.Proofs.YtjklngheehhggaaDoor
open Go.ChangeShapes Go.WideShapes Go.ChangeAt Go.RowKit

theorem byte_of_wf {x : Int} (h : (Lit.int .u8 x).wf = true) : ∃ n : Nat, n < 256 ∧ x = n := by
  have hb := bounds_u8 h
  exact ⟨x.toNat, by omega, by omega⟩
theorem tab_of {laid : List (String × DataW Unit)} {W : World} (hpl : (laid.all fun x => x.2.handleName?.isNone) = true) (h : laidMetH Tryd.prog laid W) (i : Nat) {name : String}
    (hi : laid[i]? = some (name, Lib.tabData .u8 [27, 54, 108, 216, 171, 77, 154])) (hg : Tryd.prog.globalNamed name = some 1) : Tab W ∧ 1 < W.heap.size := by
  obtain ⟨hc, hs⟩ := G294.tab_of_laid hpl h i (g := 1) (t := 231) (e := 5) (n := 7) hi hg (by kernel_rfl) Tryd.underlying231 Tryd.underlying5 (by kernel_rfl) (by kernel_rfl)
  refine ⟨fun k hk => ?_, hs⟩
  have := hc k (by simpa using hk)
  rw [this]
  have : k = 0 ∨ k = 1 ∨ k = 2 ∨ k = 3 ∨ k = 4 ∨ k = 5 ∨ k = 6 := by omega
  rcases this with rfl | rfl | rfl | rfl | rfl | rfl | rfl <;> rfl

end Go.Proofs.YtjklngheehhggaaDoor

/- From the readings of a law's arguments to what its walk asks: slices of ints, slices of slices of bytes, a struct of one such field. -/
namespace G294
open Go Go.ChangeShapes Go.WideShapes Go.ChangeAt Go.RowKit Go.Deep

def bytesOf (zs : List Int) : List UInt8 := zs.map fun z => UInt8.ofNat z.toNat
theorem bytesOf_length (zs : List Int) : (bytesOf zs).length = zs.length := by simp [bytesOf]
theorem bys_bytesOf {zs : List Int} (h : ∀ z ∈ zs, (Lit.int .u8 z).wf = true) : bys (bytesOf zs) = zs.map fun z => Value.int .u8 z := by
  simp only [bys, bytesOf, List.map_map]
  refine List.map_congr_left fun z hz => ?_
  have hb := bounds_u8 (h z hz)
  simp only [Function.comp, UInt8.toNat_ofNat']
  congr 1
  omega

section
variable {H : Type} {enc : TypeId × Value → H} {P : Program} {W : World} {base : Nat} {t e q : TypeId} {v : Value} {d : DataW H} {p : List MemPlace}
/-- a slice of ints that came in -/
theorem seen_ints (ht : P.underlying t = some (.slice e)) (he : P.underlying e = some (.int .i64)) (hc : P.cellsOf e = 1)
    (hv : Value.okWide P W .any base t v) (h : DataW.Trod enc P W 0 (fun _ => true) true t v d p) (hlt : ∀ x ∈ p, x.block < W.heap.size) : ∃ l : List Int, Seen W v (ints l) := by
  obtain ⟨a0, len, cap, rfl⟩ := okWide_slice ht hv
  obtain ⟨fuel, hf⟩ := h
  rcases open_ints ht he hc hf with ⟨hcs, hx⟩ | ⟨a, len', cap', zs, hcs, _, hl, hm, hz, hx, hcell, hwz⟩
  · have e1 : a0 = none ∧ len = 0 ∧ cap = 0 := by simpa [Value.cells] using hcs
    obtain ⟨rfl, rfl, rfl⟩ := e1
    exact ⟨[], Seen.nil W⟩
  · have e1 : a0 = some a ∧ len = len' ∧ cap = cap' := by simpa [Value.cells] using hcs
    obtain ⟨rfl, rfl, rfl⟩ := e1
    have hz' : zs.length = cap := by simpa using hz
    have hlen : (zs.take len).length = len := by rw [List.length_take]; omega
    refine ⟨zs.take len, some a, cap, by simp [hlen, hl, hz'], by simp [hl, hz'], hm, fun hn => ?_⟩
    rw [ints_length, hlen] at hn
    obtain ⟨b, off, rfl, hc'⟩ := ints_at hcell (by omega)
    refine ⟨b, off, rfl, World.block_lt_of_cell? W _ (hc' 0 (by omega)), fun i u hu => ?_⟩
    have hi : i < (zs.take len).length := by
      have := (List.getElem?_eq_some_iff.1 hu).1
      simpa using this
    rw [ints_get _ i hi] at hu
    rw [hlen] at hi
    rw [hc' i (by omega), ← Option.some.inj hu]
    simp [List.getD, show i < zs.length by omega]

/-- the cells of a slice of slices of bytes -/
theorem seen_rows {held : Bool} {fuel : Nat} {x : DataW H × List MemPlace} (ht : P.underlying t = some (.slice e)) (he : P.underlying e = some (.slice q)) (hq : P.underlying q = some (.int .u8)) (ce : P.cellsOf e = 1) (cq : P.cellsOf q = 1)
    (h : DataW.trod enc P W 0 (fun _ => true) held fuel t [v] = some x) : ∃ L : Mat, SeenM W v L := by
  rcases open_int_rows ht he hq ce cq h with ⟨hcs, _⟩ | ⟨a, len, cap, A, L, C, Z, hcs, _, hl, hm, _, hrow⟩
  · obtain rfl : v = .slice none 0 0 := by simpa using hcs
    exact ⟨[], [], rfl, Seen.nil W, fun i u hu => by simp at hu⟩
  · obtain rfl : v = .slice (some a) len cap := by simpa using hcs
    refine ⟨(List.range len).map fun r => bytesOf ((Z r).take (L r)), (List.range len).map fun r => .slice (A r) (L r) (C r), by simp, ?_, ?_⟩
    · refine ⟨some a, cap, by simp, by simp [hl], hm, fun hn => ?_⟩
      have hn' : 0 < len := by simpa using hn
      obtain ⟨b, off, spot⟩ := a
      have hspot : spot = none := by simpa [Addr.add] using World.cell?_spot (hrow 0 (by omega)).1
      subst hspot
      have hc' : ∀ i, i < len → W.cell? ⟨b, off + i, none⟩ = some (.slice (A i) (L i) (C i)) := fun i hi => by
        rw [← Go.WideShapes.add_plain]; exact (hrow i (by omega)).1
      refine ⟨b, off, rfl, World.block_lt_of_cell? W _ (hc' 0 hn'), fun i u hu => ?_⟩
      have hi : i < len := by have := (List.getElem?_eq_some_iff.1 hu).1; simpa using this
      rw [hc' i hi]
      rw [List.getElem?_map, List.getElem?_range hi] at hu
      simpa using hu
    · intro i u hu
      have hi : i < len := by have := (List.getElem?_eq_some_iff.1 hu).1; simpa using this
      rw [List.getElem?_map, List.getElem?_range hi] at hu
      have hu' : Value.slice (A i) (L i) (C i) = u := by simpa using hu
      subst hu'
      obtain ⟨r1, r2, r3, r4, r5, r6, r7⟩ := hrow i (by omega)
      have eg : ((List.range len).map fun r => bytesOf ((Z r).take (L r))).getD i [] = bytesOf ((Z i).take (L i)) := by simp [List.getD, hi]
      have hlen : (bytesOf ((Z i).take (L i))).length = L i := by rw [bytesOf_length, List.length_take]; omega
      rw [eg]
      refine ⟨A i, C i, by rw [bys_length, hlen], by rw [bys_length, hlen]; exact r2, r3, fun hn => ?_⟩
      rw [bys_length, hlen] at hn
      obtain ⟨a', ha'⟩ : ∃ a', A i = some a' := by
        cases hA : A i with
        | none => have := r6 hA; omega
        | some a' => exact ⟨a', rfl⟩
      obtain ⟨b', off', spot'⟩ := a'
      obtain ⟨_, hcc⟩ := r7 _ ha'
      have hspot : spot' = none := by simpa [Addr.add] using World.cell?_spot (hcc 0 (by omega))
      subst hspot
      have hc' : ∀ j, j < C i → W.cell? ⟨b', off' + j, none⟩ = some (.int .u8 ((Z i).getD j 0)) := fun j hj => by
        rw [← Go.WideShapes.add_plain]; exact hcc j hj
      refine ⟨b', off', ha', World.block_lt_of_cell? W _ (hc' 0 (by omega)), fun j u hu => ?_⟩
      have hj : j < L i := by have := (List.getElem?_eq_some_iff.1 hu).1; simpa [hlen] using this
      rw [bys_bytesOf (fun z hz => r5 z (List.mem_of_mem_take hz)), List.getElem?_map, List.getElem?_take, if_pos hj, List.getElem?_eq_getElem (by omega)] at hu
      simp only [Option.map_some, Option.some.injEq] at hu
      rw [hc' j (by omega), ← hu]
      simp [List.getD, show j < (Z i).length by omega]

/-- a struct of one field, a slice of slices of bytes, that came in -/
theorem seen_mat1 {s : TypeId} {f0 : Field} (hs : P.underlying s = some (.struct #[f0])) (ho : f0.offset = 0) (hf : f0.type = t) (cs1 : P.cellsOf s = 1) (ct : P.cellsOf t = 1)
    (ht : P.underlying t = some (.slice e)) (he : P.underlying e = some (.slice q)) (hq : P.underlying q = some (.int .u8)) (ce : P.cellsOf e = 1) (cq : P.cellsOf q = 1)
    (hv : Value.okWide P W .any base s v) (h : DataW.Trod enc P W 0 (fun _ => true) true s v d p) (hlt : ∀ x ∈ p, x.block < W.heap.size) : ∃ (y : Value) (L : Mat), v = .agg #[y] ∧ SeenM W y L := by
  obtain ⟨cs, rfl, hcs⟩ := okWide_struct hs hv
  rw [cs1] at hcs
  obtain ⟨y, rfl⟩ : ∃ y, cs = #[y] := by
    match cs, hcs with
    | ⟨[y]⟩, _ => exact ⟨y, rfl⟩
  obtain ⟨fuel, hfu⟩ := h
  obtain ⟨y0, n, _, _, hy⟩ := trod_struct1 hs hfu
  rw [ho, hf, ct] at hy
  have hy' : DataW.trod enc P W 0 (fun _ => true) true n t [y] = some y0 := by simpa [Value.cells] using hy
  obtain ⟨L, hL⟩ := seen_rows ht he hq ce cq hy'
  exact ⟨y, L, rfl, hL⟩
end
end G294
namespace Go.Proofs.YtjklngheehhggaaDoor
open Go Go.ChangeShapes Go.WideShapes Go.ChangeAt Go.RowKit G294

end Go.Proofs.YtjklngheehhggaaDoor

/- From the readings of a law's arguments to what its walk asks: a struct of an int and a slice of bytes. -/
namespace G294
open Go Go.ChangeShapes Go.WideShapes Go.ChangeAt Go.RowKit Go.Deep Go.Joins
section
variable {H : Type} {enc : TypeId × Value → H} {P : Program} {W : World} {base : Nat} {t e q s : TypeId} {v : Value} {d : DataW H} {p : List MemPlace} {f0 f1 : Field}
theorem seen_bytes1 {held : Bool} {fuel : Nat} {x : DataW H × List MemPlace} (ht : P.underlying t = some (.slice e)) (he : P.underlying e = some (.int .u8)) (hc : P.cellsOf e = 1)
    (h : DataW.trod enc P W 0 (fun _ => true) held fuel t [v] = some x) : ∃ l : List UInt8, Seen W v (bys l) := by
  rcases open_ints ht he hc h with ⟨hcs, hx⟩ | ⟨a, len, cap, zs, hcs, _, hl, hm, hz, hx, hcell, hwz⟩
  · obtain rfl : v = .slice none 0 0 := by simpa using hcs
    exact ⟨[], Seen.nil W⟩
  · obtain rfl : v = .slice (some a) len cap := by simpa using hcs
    have hz' : zs.length = cap := by simpa using hz
    obtain ⟨l, hbl, hll⟩ := bytes_of_wf (zs := zs.take len) (fun y hy => hwz y (List.mem_of_mem_take hy))
    have hlen : l.length = len := by rw [hll, List.length_take]; omega
    refine ⟨l, some a, cap, by simp [hlen], by simp [hlen, hl], hm, fun hn => ?_⟩
    rw [bys_length, hlen] at hn
    obtain ⟨b, off, rfl, hc'⟩ := ints_at hcell (by omega)
    refine ⟨b, off, rfl, World.block_lt_of_cell? W _ (hc' 0 (by omega)), fun i u hu => ?_⟩
    rw [← hbl] at hu
    simp only [List.getElem?_map, List.getElem?_take] at hu
    split at hu
    · rename_i hi
      rw [hc' i (by omega)]
      rw [List.getElem?_eq_getElem (by omega)] at hu
      simp only [Option.map_some, Option.some.injEq] at hu
      rw [← hu]
      simp [List.getD, show i < zs.length by omega]
    · simp at hu
theorem seen_piece (hs : P.underlying s = some (.struct #[f0, f1])) (hone : oneCellFields P #[f0, f1] = true) (hC : P.cellsOf s = 2) (u0 : P.underlying f0.type = some (.int .i64)) (ht : P.underlying f1.type = some (.slice e)) (he : P.underlying e = some (.int .u8)) (hc : P.cellsOf e = 1)
    (hv : Value.okWide P W .any base s v) (h : DataW.Trod enc P W 0 (fun _ => true) true s v d p) : ∃ (a : Int) (u : Value) (l : List UInt8), v = .agg #[.int .i64 a, u] ∧ Seen W u (bys l) := by
  obtain ⟨v0, v1, y0, y1, n, rfl, _, _, h0, h1⟩ := open_agg2 hs hone hC hv h
  obtain ⟨g, hg, _⟩ := DataW.trod_int u0 h0
  obtain ⟨l, hl⟩ := seen_bytes1 ht he hc h1
  simp only [List.cons.injEq, and_true] at hg
  exact ⟨g, v1, l, by rw [hg], hl⟩
end
end G294
