/- Joined texts: Remade, RebMath, Rebuild. -/
import Derived.Test.YtipmfebnjmobfaaDoorBd11
set_option linter.unusedSimpArgs false
set_option linter.unusedVariables false
/- remade: the iterator over the shards that EncodeShards makes of DecodeShards. -/
namespace G294
open Go Go.RowKit
/-- the iterator's closure, and what it holds -/
def MadeIt (TM TS E EE ES : TypeId) (g : Nat) (w : World) (l : List Sh) (k m : Nat) (s : Value) (w' : World) : Prop := ∃ Bm Bt A n c At nt ct vs, s = .func (.func g) #[] #[.pointer (some ⟨Bm, 0, none⟩), .pointer (some ⟨Bt, 0, none⟩)] ∧ Boxed w' Bm TM (.slice A n c) ∧ Boxed w' Bt TS (.slice At nt ct) ∧ w.heap.size ≤ Bm ∧ w.heap.size ≤ Bt ∧
  OwnM E EE w' w.heap.size w'.heap.size (.slice A n c) (codM k m) vs ∧ OwnStrs ES w' w.heap.size w'.heap.size (.slice At nt ct) (decR l k m) ∧ TurnIn 0 0 w w'
theorem decR_row {l : List Sh} {k m : Nat} (h : decOk l k m = true) : ∀ j, j < k → ((decR l k m).getD j []).length = lenH l := fun j hj => by
  have hp : preOk l k m = true := by
    unfold decOk at h; simp only [Bool.and_eq_true] at h; exact h.1
  have hu : usedOk k l = true := by rw [decOk_yes hp] at h; exact h
  rw [decR_yes hp, decY_yes hu]
  unfold decX rowsT
  rw [mkM_getD _ _ _ _ hj, mkRow_length]
theorem decR_length {l : List Sh} {k m : Nat} (h : decOk l k m = true) : (decR l k m).length = k := by
  have hp : preOk l k m = true := by
    unfold decOk at h; simp only [Bool.and_eq_true] at h; exact h.1
  have hu : usedOk k l = true := by rw [decOk_yes hp] at h; exact h
  rw [decR_yes hp, decY_yes hu]
  unfold decX
  rw [rowsT_length]
theorem decOk_shape {l : List Sh} {k m : Int} (h : decOk l k m = true) : shapeOk k m = true := by
  unfold decOk preOk at h
  simp only [Bool.and_eq_true] at h
  exact h.1.1.1
theorem decOk_shards {l : List Sh} {k m : Int} (h : decOk l k m = true) : shardsOk l (k + m) = true := by
  unfold decOk preOk at h
  simp only [Bool.and_eq_true] at h
  exact h.1.1.2
end G294
namespace Go.Proofs.YtipmfebnjmobfaaDoor
open Go.RowKit Go.Shelf G294

set_option maxRecDepth 100000 in
set_option maxHeartbeats 2000000 in
theorem remade_no (v : Value) (l : List Sh) (k m : Int) (w : World) (hv : SeenH w v l) (hln : l.length ≤ 1048576) (ht : Tab w) (h0 : 1 < w.heap.size) (hd : decOk l k m = false) :
    Calls Tryd.prog 70 #[v, .int .i64 k, .int .i64 m] w fun e w' => e = .returned (.tuple #[.nilFunc, .bool false]) ∧ TurnIn 0 0 w w' := by
  have HV := Lib.hid hv
  have HTB := Lib.hid ht
  have HD := Lib.hid hd
  obtain ⟨A, cp, rfl⟩ := hv.len
  clear hv ht hd
  go_enter Tryd.func70, Tryd.ntmps70
  go_wp2_with fail
  refine (decodeShards_own _ l k m _ HV.out hln HTB.out h0).mono ?_
  rintro e w1 ⟨v1, rfl, o1, k1⟩
  obtain ⟨A1, n1, c1, rfl⟩ := o1.isSlice
  rw [HD.out]
  clear o1
  go_wp2_with fail
  go_ret2
  exact ⟨rfl, k1⟩

set_option maxRecDepth 100000 in
set_option maxHeartbeats 2000000 in
theorem remade_yes (v : Value) (l : List Sh) (p q : Nat) (w : World) (hv : SeenH w v l) (hln : l.length ≤ 1048576) (ht : Tab w) (h0 : 1 < w.heap.size) (hd : decOk l p q = true) :
    Calls Tryd.prog 70 #[v, .int .i64 p, .int .i64 q] w fun e w' => ∃ s, e = .returned (.tuple #[s, .bool true]) ∧ MadeIt 60 24 5 42 9 124 w l p q s w' := by
  have HV := Lib.hid hv
  have HTB := Lib.hid ht
  have HD := Lib.hid hd
  have HSH := Lib.hid (decOk_shape hd)
  have HR1 := Lib.hid (codR_yes (decOk_shape hd))
  obtain ⟨A, cp, rfl⟩ := hv.len
  clear hv ht hd
  go_enter Tryd.func70, Tryd.ntmps70
  go_wp2_with fail
  refine (decodeShards_own _ l p q _ HV.out hln HTB.out h0).mono ?_
  rintro e w1 ⟨v1, rfl, o1, k1⟩
  obtain ⟨A1, n1, c1, rfl⟩ := o1.isSlice
  rw [HD.out]
  have hs1 := k1.size
  have HO1 := Lib.hid o1
  clear o1
  go_wp2_with fail
  refine (codeMatrix_own p q _ (HTB.out.below k1.to_below h0) (by omega)).mono ?_
  rintro e w2 ⟨v2, vs2, rfl, hM2, k2⟩
  rw [HR1.out] at hM2
  rw [HSH.out]
  obtain ⟨A2, n2, c2, rfl⟩ := hM2.isSlice
  have hs2 := k2.size
  have a3 := turn_alloc w2 (.cells #[.slice A2 n2 c2] 60)
  have z3 := World.size_alloc w2 (.cells #[.slice A2 n2 c2] 60)
  have HM2 := Lib.hid (hM2.keep a3 (by omega))
  have HO2 := Lib.hid ((HO1.out.keep k2 (by omega)).keep a3 (by omega))
  have K13 := Lib.hid (turn_trans (turn_trans k1 k2 (by omega)) a3 (by omega))
  have hz3 : w.heap.size + 1 ≤ (w2.alloc (.cells #[.slice A2 n2 c2] 60)).heap.size := by omega
  have hz4 : w2.heap.size + 1 ≤ (w2.alloc (.cells #[.slice A2 n2 c2] 60)).heap.size := by omega
  clear hM2 z3
  go_wp2_with fail
  generalize (w2.alloc (.cells #[.slice A2 n2 c2] 60)) = w3 at *
  refine (shardsBy_any _ _ _ _ _).mono ?_
  rintro e w' ⟨rfl, rfl⟩
  go_wp2_with fail
  go_ret2
  have b1 := (Boxed.new w3 60 (.slice A2 n2 c2)).alloc (.cells #[.slice A1 n1 c1] 24)
  have b2 := Boxed.new (w3.alloc (.cells #[.slice A2 n2 c2] 60)) 24 (.slice A1 n1 c1)
  rw [World.size_alloc] at b2
  have kk : TurnIn 0 0 w3 ((w3.alloc (.cells #[.slice A2 n2 c2] 60)).alloc (.cells #[.slice A1 n1 c1] 24)) := turn_trans (turn_alloc _ _) (turn_alloc _ _) (by omega)
  refine ⟨_, rfl, w3.heap.size, w3.heap.size + 1, _, _, _, _, _, _, vs2, rfl, b1, b2, by omega, by omega, ?_, ?_, turn_trans K13.out kk (by omega)⟩
  · exact (HM2.out.keep kk (by omega)).wider (by omega) (by simp; omega) (Nat.le_refl _)
  · have o := HO2.out.keep kk (by omega)
    exact ⟨o.1, Nat.le_refl _, fun g hg => by have := o.2.2 g hg; simp; omega⟩

end Go.Proofs.YtipmfebnjmobfaaDoor

/- RebuildShard: its mathematics; the model's. -/
namespace G294
open Go Go.RowKit
def rebOk (l : List Sh) (k m no : Int) : Bool := decOk l k m && decide (0 ≤ no ∧ no ≤ k + m - 1)
def rebR (l : List Sh) (k m no : Int) : Sh := if rebOk l k m no = true then (no, comb k.toNat (lenH l) (codF k.toNat no.toNat) (decR l k m)) else (0, [])
theorem rebR_no {l : List Sh} {k m no : Int} (h : rebOk l k m no = false) : rebR l k m no = (0, []) := if_neg (by rw [h]; simp)
theorem rebR_yes {l : List Sh} {k : Nat} {m no : Int} (h : rebOk l k m no = true) : rebR l k m no = (no, comb k (lenH l) (codF k no.toNat) (decR l k m)) := by unfold rebR; rw [if_pos h]; simp
/-- a shard and a bool are returned -/
def RetShOk (w : World) (x : Sh) (ok : Bool) (e : Ending) (w' : World) : Prop := e = .returned (.tuple #[.agg #[.int .i64 x.1, .string (str x.2)], .bool ok]) ∧ TurnIn 0 0 w w'
theorem str_nil' : str [] = ByteArray.mk #[] := rfl
end G294
namespace Go.Proofs.YtipmfebnjmobfaaDoor
open Go.RowKit Go.Shelf G294

set_option maxRecDepth 100000 in
set_option maxHeartbeats 2000000 in
theorem sRebuildShard_own (v : Value) (l : List Sh) (k m no : Int) (w : World) (hv : SeenH w v l) :
    Calls Tryd.prog 21 #[v, .int .i64 k, .int .i64 m, .int .i64 no] w (RetShOk w (rebR l k m no) (rebOk l k m no)) := by
  have HV := Lib.hid hv
  obtain ⟨A, cp, rfl⟩ := hv.len
  clear hv
  have a1 := turn_alloc w (.cells #[.int .i64 0, .string ⟨#[]⟩] 35)
  have z1 := World.size_alloc w (.cells #[.int .i64 0, .string ⟨#[]⟩] 35)
  have c0 : (w.alloc (.cells #[.int .i64 0, .string ⟨#[]⟩] 35)).cell? ⟨w.heap.size, 0, none⟩ = some (.int .i64 0) := by simp
  have c1 : (w.alloc (.cells #[.int .i64 0, .string ⟨#[]⟩] 35)).cell? ⟨w.heap.size, 1, none⟩ = some (.string ⟨#[]⟩) := by simp
  have f0 : (w.alloc (.cells #[.int .i64 0, .string ⟨#[]⟩] 35)).frozen? ⟨w.heap.size, 0, none⟩ = false := by simp
  have f1 : (w.alloc (.cells #[.int .i64 0, .string ⟨#[]⟩] 35)).frozen? ⟨w.heap.size, 1, none⟩ = false := by simp
  by_cases hd : decOk l k m = true
  · have HD := Lib.hid hd
    have hbs := shapeOk_b (decOk_shape hd)
    have h40 := shards_40 (decOk_shards hd)
    obtain ⟨p, rfl⟩ := Int.eq_ofNat_of_zero_le (show 0 ≤ k by omega)
    obtain ⟨q, rfl⟩ := Int.eq_ofNat_of_zero_le (show 0 ≤ m by omega)
    have HDL := Lib.hid (decR_length hd)
    have HDR := Lib.hid (decR_row hd)
    clear hd
    by_cases hin : decide (0 ≤ no ∧ no ≤ (p : Int) + q - 1) = true
    · have HI : Hid (inB no 0 ((p : Int) + q - 1) = true) := hin
      have hb : 0 ≤ no ∧ no ≤ (p : Int) + q - 1 := by simpa using hin
      have hok : rebOk l p q no = true := by unfold rebOk; rw [HD.out, hin]; rfl
      have HO := Lib.hid hok
      have HR := Lib.hid (rebR_yes hok)
      clear hin hok
      obtain ⟨t, rfl⟩ := Int.eq_ofNat_of_zero_le hb.1
      go_enter Tryd.func21, Tryd.ntmps21
      go_wp2_with fail
      generalize (w.alloc (.cells #[.int .i64 0, .string ⟨#[]⟩] 35)) = wa at *
      refine (sDecodeShards_own _ l p q _ (HV.out.below a1.to_below)).mono ?_
      rintro e w1 ⟨v1, rfl, o1, k1⟩
      obtain ⟨A1, n1, c1', rfl⟩ := o1.isSlice
      rw [HD.out]
      have hs1 := k1.size
      go_wp2_with fail
      refine (l1In_any _ _ _ _).mono ?_
      rintro e w' ⟨rfl, rfl⟩
      rw [HI.out]
      have HO1 := Lib.hid o1
      clear o1
      go_wp2_with fail
      refine (l3Matrix_own p q _ (by omega) (by omega) (by omega) (by omega)).mono ?_
      rintro e w2 ⟨v2, vs2, rfl, hM2, k2⟩
      obtain ⟨A2, n2, c2, rfl⟩ := hM2.isSlice
      have hs2 := k2.size
      have HM2 := Lib.hid hM2
      have HO2 := Lib.hid (HO1.out.keep k2 (by omega))
      clear hM2
      go_wp2_with fail
      refine (l3Rows_own (p + q) p (lenH l) (codF p) (decR l p q) _ _ _ HM2.out.seen HO2.out.seen HDL.out (by omega) (by omega) (by omega) HDR.out (by omega)).mono ?_
      rintro e w3 ⟨v3, rfl, o3, k3⟩
      have hs3 := k3.size
      have kk := turn_trans (turn_trans k1 k2 (by omega)) k3 (by omega)
      have d0 := cell_turn kk c0 (by omega)
      have d1 := cell_turn kk c1 (by omega)
      have e0 := frozen_turn kk f0 (by omega)
      have e1 := frozen_turn kk f1 (by omega)
      have htl : t < (rowsT (p + q) p (lenH l) (codF p) (decR l p q)).length := by rw [rowsT_length]; omega
      obtain ⟨A3, c3, hv3, _, hcm3, hx3⟩ := o3.seen
      rw [strs_length, rowsT_length] at hv3
      obtain ⟨b3, off3, rfl, hb3, hc3⟩ := hx3 (by rw [strs_length]; omega)
      have hct := hc3 t _ (strs_get _ t htl)
      have hrow : (rowsT (p + q) p (lenH l) (codF p) (decR l p q))[t] = comb p (lenH l) (codF p t) (decR l p q) := by
        simp [rowsT, mkM, comb]
      rw [hrow] at hct
      subst hv3
      unfold maxLen at hcm3
      have ht0 : (0 : Int) ≤ (t : Int) := by omega
      have ht1 : (t : Int) < ((p + q : Nat) : Int) := by omega
      have KF := Lib.hid (turn_trans a1 kk (by omega))
      clear hx3 hc3 hrow htl o3 kk k1 k2 k3
      generalize htx : comb p (lenH l) (codF p t) (decR l p q) = tx at *
      have HTX := Lib.hid htx
      clear htx
      go_wp2_with fail
      refine bodyPost_ret (v := .tuple #[.agg #[.int .i64 t, .string (str tx)], .bool true]) (by simp [results, Tryd.results21, go_sem, d0, d1]) rfl ?_
      refine ⟨by rw [HR.out, HO.out, ← HTX.out, Int.toNat_natCast], TurnIn.of_below ?_⟩
      exact ((KF.out.to_below.setCell (p := ⟨w.heap.size, 0, none⟩) (Nat.le_refl _) _).setCell (p := ⟨w.heap.size, 1, none⟩) (Nat.le_refl _) _)
    · have hin' : decide (0 ≤ no ∧ no ≤ (p : Int) + q - 1) = false := by simpa using hin
      have HI : Hid (inB no 0 ((p : Int) + q - 1) = false) := hin'
      have hok : rebOk l p q no = false := by unfold rebOk; rw [hin']; simp
      have HO := Lib.hid hok
      have HR := Lib.hid (rebR_no hok)
      clear hin hin' hok
      go_enter Tryd.func21, Tryd.ntmps21
      go_wp2_with fail
      generalize (w.alloc (.cells #[.int .i64 0, .string ⟨#[]⟩] 35)) = wa at *
      refine (sDecodeShards_own _ l p q _ (HV.out.below a1.to_below)).mono ?_
      rintro e w1 ⟨v1, rfl, o1, k1⟩
      obtain ⟨A1, n1, c1', rfl⟩ := o1.isSlice
      rw [HD.out]
      clear o1
      go_wp2_with fail
      refine (l1In_any _ _ _ _).mono ?_
      rintro e w' ⟨rfl, rfl⟩
      rw [HI.out]
      have d0 := cell_turn k1 c0 (by omega)
      have d1 := cell_turn k1 c1 (by omega)
      have e0 := frozen_turn k1 f0 (by omega)
      have e1 := frozen_turn k1 f1 (by omega)
      have KF := Lib.hid (turn_trans a1 k1 (by omega))
      clear k1
      go_wp2_with fail
      refine bodyPost_ret (v := .tuple #[.agg #[.int .i64 0, .string ⟨#[]⟩], .bool false]) (by simp [results, Tryd.results21, go_sem, d0, d1]) rfl ?_
      refine ⟨by rw [HR.out, HO.out]; rfl, TurnIn.of_below ?_⟩
      exact ((KF.out.to_below.setCell (p := ⟨w.heap.size, 0, none⟩) (Nat.le_refl _) _).setCell (p := ⟨w.heap.size, 1, none⟩) (Nat.le_refl _) _)
  · have hd' : decOk l k m = false := by simpa using hd
    have HD := Lib.hid hd'
    have hok : rebOk l k m no = false := by unfold rebOk; rw [hd']; simp
    have HO := Lib.hid hok
    have HR := Lib.hid (rebR_no hok)
    clear hd hd' hok
    go_enter Tryd.func21, Tryd.ntmps21
    go_wp2_with fail
    generalize (w.alloc (.cells #[.int .i64 0, .string ⟨#[]⟩] 35)) = wa at *
    refine (sDecodeShards_own _ l k m _ (HV.out.below a1.to_below)).mono ?_
    rintro e w1 ⟨v1, rfl, o1, k1⟩
    obtain ⟨A1, n1, c1', rfl⟩ := o1.isSlice
    rw [HD.out]
    clear o1
    have d0 := cell_turn k1 c0 (by omega)
    have d1 := cell_turn k1 c1 (by omega)
    have e0 := frozen_turn k1 f0 (by omega)
    have e1 := frozen_turn k1 f1 (by omega)
    have KF := Lib.hid (turn_trans a1 k1 (by omega))
    clear k1
    go_wp2_with fail
    refine bodyPost_ret (v := .tuple #[.agg #[.int .i64 0, .string ⟨#[]⟩], .bool false]) (by simp [results, Tryd.results21, go_sem, d0, d1]) rfl ?_
    refine ⟨by rw [HR.out, HO.out]; rfl, TurnIn.of_below ?_⟩
    exact ((KF.out.to_below.setCell (p := ⟨w.heap.size, 0, none⟩) (Nat.le_refl _) _).setCell (p := ⟨w.heap.size, 1, none⟩) (Nat.le_refl _) _)

end Go.Proofs.YtipmfebnjmobfaaDoor

/- RebuildShard, the program's. -/
namespace G294
open Go Go.RowKit
/-- three new blocks -/
theorem three (w : World) (a b c : Obj) : (((w.alloc a).alloc b).alloc c).heap[w.heap.size]? = some a ∧ (((w.alloc a).alloc b).alloc c).heap[w.heap.size + 1]? = some b ∧ (((w.alloc a).alloc b).alloc c).heap[w.heap.size + 1 + 1]? = some c ∧ (((w.alloc a).alloc b).alloc c).heap.size = w.heap.size + 3 ∧ TurnIn 0 0 w (((w.alloc a).alloc b).alloc c) := by
  refine ⟨?_, ?_, ?_, by simp, turn_trans (turn_trans (turn_alloc _ _) (turn_alloc _ _) (by omega)) (turn_alloc _ _) (by omega)⟩
  · exact (Below.heap_alloc _ _ _ (by simp; omega)).trans ((Below.heap_alloc _ _ _ (by simp)).trans (World.alloc_heap_new w a))
  · have := World.alloc_heap_new (w.alloc a) b
    rw [World.size_alloc] at this
    exact (Below.heap_alloc _ _ _ (by simp)).trans this
  · have := World.alloc_heap_new ((w.alloc a).alloc b) c
    rw [World.size_alloc, World.size_alloc] at this
    exact this
theorem alloc_pair0 (w : World) (x y : Value) (T : TypeId) : (w.alloc (.cells #[x, y] T)).cell? ⟨w.heap.size, 0, none⟩ = some x := by simp
theorem alloc_pair1 (w : World) (x y : Value) (T : TypeId) : (w.alloc (.cells #[x, y] T)).cell? ⟨w.heap.size, 1, none⟩ = some y := by simp
theorem cell_of_heap {w : World} {B o : Nat} {cs : Array Value} {T : TypeId} {fr : Nat × Nat} {v : Value} (h : w.heap[B]? = some (.cells cs T fr)) (hv : cs[o]? = some v) : w.cell? ⟨B, o, none⟩ = some v := by
  simp [World.cell?, h, hv]
theorem frozen_of_heap {w : World} {B : Nat} {cs : Array Value} {T : TypeId} (o : Nat) (h : w.heap[B]? = some (.cells cs T (0, 0))) : w.frozen? ⟨B, o, none⟩ = false := by
  simp [World.frozen?, h]
theorem set3 {W : World} {b b' : Nat} {x y z x0 y0 z0 : Value} (hne : b ≠ b') (c0 : W.cell? ⟨b, 0, none⟩ = some x0) (c1 : W.cell? ⟨b, 1, none⟩ = some y0) (c2 : W.cell? ⟨b', 0, none⟩ = some z0) :
    (((W.setCell ⟨b, 0, none⟩ x).setCell ⟨b, 1, none⟩ y).setCell ⟨b', 0, none⟩ z).cell? ⟨b, 0, none⟩ = some x ∧ (((W.setCell ⟨b, 0, none⟩ x).setCell ⟨b, 1, none⟩ y).setCell ⟨b', 0, none⟩ z).cell? ⟨b, 1, none⟩ = some y ∧ (((W.setCell ⟨b, 0, none⟩ x).setCell ⟨b, 1, none⟩ y).setCell ⟨b', 0, none⟩ z).cell? ⟨b', 0, none⟩ = some z := by
  have n1 : (⟨b', 0, none⟩ : Addr) ≠ ⟨b, 0, none⟩ := fun e => hne (by simpa using e.symm)
  have n2 : (⟨b', 0, none⟩ : Addr) ≠ ⟨b, 1, none⟩ := fun e => by simp at e
  have n3 : (⟨b, 1, none⟩ : Addr) ≠ ⟨b, 0, none⟩ := fun e => by simp at e
  have d0 : (W.setCell ⟨b, 0, none⟩ x).cell? ⟨b, 0, none⟩ = some x := World.cell?_setCell_same _ _ _ c0
  have d1 : (W.setCell ⟨b, 0, none⟩ x).cell? ⟨b, 1, none⟩ = some y0 := (World.cell?_setCell_other _ _ _ _ n3.symm).trans c1
  have d2 : (W.setCell ⟨b, 0, none⟩ x).cell? ⟨b', 0, none⟩ = some z0 := (World.cell?_setCell_other _ _ _ _ n1.symm).trans c2
  refine ⟨?_, ?_, ?_⟩
  · exact (World.cell?_setCell_other _ _ _ _ n1).trans ((World.cell?_setCell_other _ _ _ _ n3).trans d0)
  · exact (World.cell?_setCell_other _ _ _ _ n2).trans (World.cell?_setCell_same _ _ _ d1)
  · exact World.cell?_setCell_same _ _ _ ((World.cell?_setCell_other _ _ _ _ n2.symm).trans d2)
theorem rebOk_in {l : List Sh} {p q : Nat} {no : Int} (hd : decOk l p q = true) (hne : ∀ x ∈ shardsF (p + q) p (lenH l) (codF p) (decR l p q), x.1 ≠ no) : rebOk l p q no = false := by
  unfold rebOk
  rw [hd, Bool.true_and, decide_eq_false_iff_not]
  rintro ⟨h1, h2⟩
  obtain ⟨t, rfl⟩ := Int.eq_ofNat_of_zero_le h1
  exact hne ((t : Int), comb p (lenH l) (codF p t) (decR l p q)) (by simp only [shardsF, List.mem_map, List.mem_range]; exact ⟨t, by omega, rfl⟩) rfl
theorem rebOk_at {l : List Sh} {p q : Nat} {no : Int} {pre : List Sh} {x : Sh} (hd : decOk l p q = true) (hp : pre ++ [x] <+: shardsF (p + q) p (lenH l) (codF p) (decR l p q)) (hx : x.1 = no) : rebOk l p q no = true ∧ rebR l p q no = x := by
  obtain ⟨t, ht⟩ := hp
  have hl : pre.length < p + q := by
    have := congrArg List.length ht
    simp at this; omega
  have hg : (shardsF (p + q) p (lenH l) (codF p) (decR l p q))[pre.length]? = some x := by rw [← ht]; simp
  have hg2 : (shardsF (p + q) p (lenH l) (codF p) (decR l p q))[pre.length]? = some ((pre.length : Int), comb p (lenH l) (codF p pre.length) (decR l p q)) := by simp [shardsF, hl]
  have e := Option.some.inj (hg.symm.trans hg2)
  subst hx
  have hn : x.1 = (pre.length : Int) := by rw [e]
  have hok : rebOk l p q x.1 = true := by
    unfold rebOk
    rw [hd, Bool.true_and, decide_eq_true_eq]
    omega
  refine ⟨hok, ?_⟩
  rw [rebR_yes hok, hn, Int.toNat_natCast]
  exact e.symm
end G294
namespace Go.Proofs.YtipmfebnjmobfaaDoor
open Go.RowKit Go.Shelf G294

attribute [local go_sem] Oper.semAt_some

set_option maxRecDepth 100000 in
set_option maxHeartbeats 2000000 in
theorem rebuildShard_no (v : Value) (l : List Sh) (k m no : Int) (w : World) (hv : SeenH w v l) (hln : l.length ≤ 1048576) (ht : Tab w) (h0 : 1 < w.heap.size) (hd : decOk l k m = false) :
    Calls Tryd.prog 22 #[v, .int .i64 k, .int .i64 m, .int .i64 no] w (RetShOk w (rebR l k m no) (rebOk l k m no)) := by
  have HV := Lib.hid hv
  have HTB := Lib.hid ht
  have HD := Lib.hid hd
  obtain ⟨A, cp, rfl⟩ := hv.len
  have hok : rebOk l k m no = false := by unfold rebOk; rw [hd]; simp
  have HO := Lib.hid hok
  have HR := Lib.hid (rebR_no hok)
  clear hv ht hd hok
  obtain ⟨g0, g1, g2, z1, a1⟩ := three w (.cells #[.int .i64 no] 3) (.cells #[.int .i64 0, .string ⟨#[]⟩] 35) (.cells #[.bool false] 4)
  have c0 := cell_of_heap (o := 0) (v := .int .i64 0) g1 rfl
  have c1 := cell_of_heap (o := 1) (v := .string ⟨#[]⟩) g1 rfl
  have c2 := cell_of_heap (o := 0) (v := .bool false) g2 rfl
  have f0 := frozen_of_heap 0 g1
  have f1 := frozen_of_heap 1 g1
  have f2 := frozen_of_heap 0 g2
  clear g0 g1 g2
  go_enter Tryd.func22, Tryd.ntmps22
  go_wp2_with fail
  generalize (((w.alloc (.cells #[.int .i64 no] 3)).alloc (.cells #[.int .i64 0, .string ⟨#[]⟩] 35)).alloc (.cells #[.bool false] 4)) = wa at *
  refine (remade_no _ l k m _ (HV.out.below a1.to_below) hln (HTB.out.below a1.to_below h0) (by omega) HD.out).mono ?_
  rintro e w1 ⟨rfl, k1⟩
  have d0 := cell_turn k1 c0 (by omega)
  have d1 := cell_turn k1 c1 (by omega)
  have d2 := cell_turn k1 c2 (by omega)
  have e0 := frozen_turn k1 f0 (by omega)
  have e1 := frozen_turn k1 f1 (by omega)
  have e2 := frozen_turn k1 f2 (by omega)
  have KF := Lib.hid (turn_trans a1 k1 (by omega))
  clear k1 c0 c1 c2 f0 f1 f2 z1
  go_wp2_with fail
  refine bodyPost_ret (v := .tuple #[.agg #[.int .i64 0, .string ⟨#[]⟩], .bool false]) (by simp [results, Tryd.results22, go_sem, d0, d1, d2]) rfl ?_
  refine ⟨by rw [HR.out, HO.out]; rfl, TurnIn.of_below ?_⟩
  exact (((KF.out.to_below.setCell (p := ⟨w.heap.size + 1, 0, none⟩) (Nat.le_succ _) _).setCell (p := ⟨w.heap.size + 1, 1, none⟩) (Nat.le_succ _) _).setCell (p := ⟨w.heap.size + 1 + 1, 0, none⟩) (show w.heap.size ≤ w.heap.size + 1 + 1 by omega) _)

set_option maxRecDepth 100000 in
set_option maxHeartbeats 4000000 in
theorem rebuildShard_yes (v : Value) (l : List Sh) (p q : Nat) (no : Int) (w : World) (hv : SeenH w v l) (hln : l.length ≤ 1048576) (ht : Tab w) (h0 : 1 < w.heap.size) (hd : decOk l p q = true) :
    Calls Tryd.prog 22 #[v, .int .i64 p, .int .i64 q, .int .i64 no] w (RetShOk w (rebR l p q no) (rebOk l p q no)) := by
  have HV := Lib.hid hv
  have HTB := Lib.hid ht
  have HD := Lib.hid hd
  obtain ⟨A, cp, rfl⟩ := hv.len
  have hbs := shapeOk_b (decOk_shape hd)
  have h40 := shards_40 (decOk_shards hd)
  have HDL := Lib.hid (decR_length hd)
  have HDR := Lib.hid (decR_row hd)
  clear hv ht hd
  obtain ⟨g0, g1, g2, z1, a1⟩ := three w (.cells #[.int .i64 no] 3) (.cells #[.int .i64 0, .string ⟨#[]⟩] 35) (.cells #[.bool false] 4)
  have c7 := cell_of_heap (o := 0) (v := .int .i64 no) g0 rfl
  have c0 := cell_of_heap (o := 0) (v := .int .i64 0) g1 rfl
  have c1 := cell_of_heap (o := 1) (v := .string ⟨#[]⟩) g1 rfl
  have c2 := cell_of_heap (o := 0) (v := .bool false) g2 rfl
  have f0 := frozen_of_heap 0 g1
  have f1 := frozen_of_heap 1 g1
  have f2 := frozen_of_heap 0 g2
  clear g0 g1 g2
  refine (callsIn_wide (n := 5)).1 ?_
  refine callsIn_of_wp_marks Tryd.func22 rfl trivial ?_ rfl
  simp only [Tryd.ntmps22, List.size_toArray, List.length_cons, List.length_nil, Nat.reduceAdd, Nat.reduceSub, Array.replicate_succ, Array.replicate_zero, List.push_toArray, List.append_toArray, List.nil_append, List.cons_append]
  refine wpIn_wide.2 ?_
  go_wp2_with fail
  generalize (((w.alloc (.cells #[.int .i64 no] 3)).alloc (.cells #[.int .i64 0, .string ⟨#[]⟩] 35)).alloc (.cells #[.bool false] 4)) = wa at *
  refine (remade_yes _ l p q _ (HV.out.below a1.to_below) hln (HTB.out.below a1.to_below h0) (by omega) HD.out).mono ?_
  rintro e w1 ⟨s, rfl, Bm, Bt, Am, nm, cm, At, nt, ct, vsm, rfl, bM, bT, hBm, hBt, oM, oT, k1⟩
  have hs1 := k1.size
  replace c7 := cell_turn k1 c7 (by omega)
  replace c0 := cell_turn k1 c0 (by omega)
  replace c1 := cell_turn k1 c1 (by omega)
  replace c2 := cell_turn k1 c2 (by omega)
  replace f0 := frozen_turn k1 f0 (by omega)
  replace f1 := frozen_turn k1 f1 (by omega)
  replace f2 := frozen_turn k1 f2 (by omega)
  have HB1 := Lib.hid (k1.base a1.to_below a1.size (by omega))
  have HOM := Lib.hid oM.seen
  have HOT := Lib.hid oT.seen
  have hl1 : w.heap.size + 3 ≤ w1.heap.size := by omega
  have HBM := Lib.hid bM
  have HBT := Lib.hid bT
  have HTW : Hid (∀ W, Below w1.heap.size w1 W → Tab W ∧ 1 < W.heap.size) := fun W h => ⟨(HTB.out.below HB1.out h0).below h (by omega), by have := h.size; omega⟩
  clear oM oT k1 a1 z1 bM bT
  go_wp2_with fail
  refine (wpIn_wide (n := 5)).1 ?_
  refine wpIn_rangeFunc_ownH rfl (by omega) (gf := 124) (lb := #[.pointer (some ⟨Bm, 0, none⟩), .pointer (some ⟨Bt, 0, none⟩)]) rfl trivial (enters_of Tryd.func124 (by kernel_rfl) rfl)
    (shardsBy_stops _ (p + q) p (lenH l) Bm Bt (codF p) (decR l p q) (.slice Am nm cm) (.slice At nt ct) w1 (Below w1.heap.size) (Below w1.heap.size w1) HDL.out (by omega) (by omega) (by omega) HDR.out (by omega)
      (fun W hW => ⟨⟨(hW.cell (p := ⟨Bm, 0, none⟩) HBM.out.lt).trans HBM.out.cell, (hW.cell (p := ⟨Bt, 0, none⟩) HBT.out.lt).trans HBT.out.cell⟩, ⟨HOM.out.below hW, HOT.out.below hW⟩, HTW.out W hW⟩)
      (fun W W' h h' => h.trans h') (fun W W' h h' => h.trans (h'.mono h.size)) (fun W h => h) (by omega))
    (fun h h' => h.trans h') (belowK_b (Nat.le_refl _)) (Below.refl _ _) (fun _ => rfl)
    (fun pre W => Below w1.heap.size w1 W ∧ ∀ x ∈ pre, x.1 ≠ no)
    (fun c pre W => (c = Code.ret ∧ ∃ pre0 x, pre = pre0 ++ [x] ∧ x.1 = no ∧ W.cell? ⟨w.heap.size + 1, 0, none⟩ = some (.int .i64 x.1) ∧ W.cell? ⟨w.heap.size + 1, 1, none⟩ = some (.string (str x.2)) ∧ W.cell? ⟨w.heap.size + 1 + 1, 0, none⟩ = some (.bool true)) ∧ Below w.heap.size w W)
    (OwnFrom.and (ownFrom_below (Nat.le_refl _) (Nat.le_refl _)) (ownFrom_pure _ _))
    (fun c => OwnFrom.and (fun s A B row hs hg hr => by
      obtain ⟨hc, pre0, x, e1, e2, e3, e4, e5⟩ := hs
      exact ⟨hc, pre0, x, e1, e2, cell_kept e3 hg (fun r e => (hr r e).2), cell_kept e4 hg (fun r e => (hr r e).2), cell_kept e5 hg (fun r e => (hr r e).2)⟩) (ownFrom_below (Nat.le_refl _) (by omega)))
    ⟨Below.refl _ _, fun x hx => by simp at hx⟩
    (fun x a' W => ∃ Bx, w1.heap.size ≤ Bx ∧ W.heap[Bx]? = some (.cells #[.int .i64 x.1, .string (str x.2)] 35 (0, 0)) ∧ a' = { tmps := #[.slice A l.length cp, .int .i64 p, .int .i64 q, .int .i64 no,
      undef, undef, undef, .pointer (some ⟨w.heap.size, 0, none⟩), .pointer (some ⟨w.heap.size + 1, 0, none⟩), .pointer (some ⟨w.heap.size + 1 + 1, 0, none⟩),
      .func (.func 124) #[] #[.pointer (some ⟨Bm, 0, none⟩), .pointer (some ⟨Bt, 0, none⟩)], .bool true, .pointer (some ⟨Bx, 0, none⟩), .tuple #[.func (.func 124) #[] #[.pointer (some ⟨Bm, 0, none⟩), .pointer (some ⟨Bt, 0, none⟩)], .bool true],
      .slice A l.length cp, .int .i64 p, .int .i64 q, .tuple #[.func (.func 124) #[] #[.pointer (some ⟨Bm, 0, none⟩), .pointer (some ⟨Bt, 0, none⟩)], .bool true], .func (.func 124) #[] #[.pointer (some ⟨Bm, 0, none⟩), .pointer (some ⟨Bt, 0, none⟩)], .bool true, .bool true, .bool false, undef,
      .func (.func 124) #[] #[.pointer (some ⟨Bm, 0, none⟩), .pointer (some ⟨Bt, 0, none⟩)], shV x, undef, undef, undef, undef, undef, undef], defers := [] })
    (fun x a' _ X Y row hs hg hr => by
      obtain ⟨Bx, e1, e2, e3⟩ := hs
      refine ⟨Bx, e1, ?_, e3⟩
      rw [hg.block Bx (Array.getElem?_eq_some_iff.1 e2).1 (fun e => by
        obtain ⟨o, ho, hoc⟩ := (hr Bx e.symm).2
        rw [e2] at ho
        cases ho
        simp [Obj.isCells] at hoc)]
      exact e2)
    ?assign ?body ?done ?stop
  case assign =>
    rintro ll pre x W K ⟨hBw, hne⟩ hK
    simp only [shV]
    gi_wp2_with fail
    exact hK _ _ ((KeepsOthers.alloc _ _).from _) ((Below.refl _ W).alloc hBw.size _) ⟨hBw.alloc hBw.size _, hne⟩ ⟨W.heap.size, hBw.size, World.alloc_heap_new W _, rfl⟩
  case body =>
    rintro ll pre x a' W hl ⟨rr, hr⟩ ⟨hBw, hne⟩ ⟨Bx, hBx, hX, rfl⟩ hlt
    obtain ⟨xn, sx⟩ := x
    have cX0 := cell_of_heap (o := 0) (v := .int .i64 xn) hX rfl
    have cX1 := cell_of_heap (o := 1) (v := .string (str sx)) hX rfl
    replace c7 := (hBw.cell (p := ⟨w.heap.size, 0, none⟩) (show w.heap.size < w1.heap.size by omega)).trans c7
    replace c0 := (hBw.cell (p := ⟨w.heap.size + 1, 0, none⟩) (show w.heap.size + 1 < w1.heap.size by omega)).trans c0
    replace c1 := (hBw.cell (p := ⟨w.heap.size + 1, 1, none⟩) (show w.heap.size + 1 < w1.heap.size by omega)).trans c1
    replace c2 := (hBw.cell (p := ⟨w.heap.size + 1 + 1, 0, none⟩) (show w.heap.size + 1 + 1 < w1.heap.size by omega)).trans c2
    replace f0 := (hBw.frozen (p := ⟨w.heap.size + 1, 0, none⟩) (show w.heap.size + 1 < w1.heap.size by omega)).trans f0
    replace f1 := (hBw.frozen (p := ⟨w.heap.size + 1, 1, none⟩) (show w.heap.size + 1 < w1.heap.size by omega)).trans f1
    replace f2 := (hBw.frozen (p := ⟨w.heap.size + 1 + 1, 0, none⟩) (show w.heap.size + 1 + 1 < w1.heap.size by omega)).trans f2
    have HNE := Lib.hid hne
    have HBW := Lib.hid hBw
    have HBE : Hid (Below w.heap.size w W) := HB1.out.trans (hBw.mono (by omega))
    simp only [shV]
    clear hX hne hr
    by_cases hxn : xn = no
    · have hb : (xn == no) = true := by simpa using hxn
      have HXN := Lib.hid hxn
      clear hxn
      gi_wp2_with fail
      refine ⟨(((KeepsOthers.setCell _ _ _).trans (KeepsOthers.setCell _ _ _)).trans (KeepsOthers.setCell _ _ _)).from _, ⟨rfl, pre, (xn, sx), rfl, HXN.out, set3 (by omega) c0 c1 c2⟩, ?_⟩
      · exact (((HBE.out.setCell (p := ⟨w.heap.size + 1, 0, none⟩) (Nat.le_succ _) _).setCell (p := ⟨w.heap.size + 1, 1, none⟩) (Nat.le_succ _) _).setCell (p := ⟨w.heap.size + 1 + 1, 0, none⟩) (show w.heap.size ≤ w.heap.size + 1 + 1 by omega) _)
    · have hb : (xn == no) = false := by simpa using hxn
      gi_wp2_with fail
      refine ⟨(KeepsOthers.refl _).from _, Below.refl _ _, HBW.out, fun x hx => ?_⟩
      rcases List.mem_append.1 hx with hx | hx
      · exact HNE.out x hx
      · simp at hx; subst hx; exact hxn
  case done =>
    rintro D ys W hD rfl ⟨hBw, hne⟩ hK
    have hok := rebOk_in HD.out hne
    have HO := Lib.hid hok
    have HR := Lib.hid (rebR_no hok)
    replace c0 := (hBw.cell (p := ⟨w.heap.size + 1, 0, none⟩) (show w.heap.size + 1 < w1.heap.size by omega)).trans c0
    replace c1 := (hBw.cell (p := ⟨w.heap.size + 1, 1, none⟩) (show w.heap.size + 1 < w1.heap.size by omega)).trans c1
    replace c2 := (hBw.cell (p := ⟨w.heap.size + 1 + 1, 0, none⟩) (show w.heap.size + 1 + 1 < w1.heap.size by omega)).trans c2
    replace f0 := (hBw.frozen (p := ⟨w.heap.size + 1, 0, none⟩) (show w.heap.size + 1 < w1.heap.size by omega)).trans f0
    replace f1 := (hBw.frozen (p := ⟨w.heap.size + 1, 1, none⟩) (show w.heap.size + 1 < w1.heap.size by omega)).trans f1
    replace f2 := (hBw.frozen (p := ⟨w.heap.size + 1 + 1, 0, none⟩) (show w.heap.size + 1 + 1 < w1.heap.size by omega)).trans f2
    have HBE : Hid (Below w.heap.size w W) := HB1.out.trans (hBw.mono (by omega))
    clear hne hok hBw
    have HKD := Lib.hid hK
    clear hK
    go_wp2_with fail
    have hK2 := ((((KeepsOthers.setCell W ⟨w.heap.size + 1, 0, none⟩ (.int .i64 0)).trans (KeepsOthers.setCell _ ⟨w.heap.size + 1, 1, none⟩ (.string ⟨#[]⟩))).trans (KeepsOthers.setCell _ ⟨w.heap.size + 1 + 1, 0, none⟩ (.bool false))).same D _ HKD.out rfl)
    refine ⟨by simp, .inl ⟨_, _, rfl, run_takeDeferred hK2, ?_⟩⟩
    have hBf := (((HBE.out.setCell (p := ⟨w.heap.size + 1, 0, none⟩) (Nat.le_succ _) (.int .i64 0)).setCell (p := ⟨w.heap.size + 1, 1, none⟩) (Nat.le_succ _) (.string ⟨#[]⟩)).setCell (p := ⟨w.heap.size + 1 + 1, 0, none⟩) (show w.heap.size ≤ w.heap.size + 1 + 1 by omega) (.bool false))
    have hBe := hBf.trans (belowK_b (w := w) (Nat.le_refl _) _ D _ (.deferred none) (by omega) hK2 rfl rfl)
    obtain ⟨r0, r1, r2⟩ := set3 (x := .int .i64 0) (y := .string ⟨#[]⟩) (z := .bool false) (show w.heap.size + 1 ≠ w.heap.size + 1 + 1 by omega) c0 c1 c2
    have q0 := cell_kept r0 (grownBy_putObj' _ D (.deferred none)) (fun r e => by cases e; exact ⟨_, hK2, rfl⟩)
    have q1 := cell_kept r1 (grownBy_putObj' _ D (.deferred none)) (fun r e => by cases e; exact ⟨_, hK2, rfl⟩)
    have q2 := cell_kept r2 (grownBy_putObj' _ D (.deferred none)) (fun r e => by cases e; exact ⟨_, hK2, rfl⟩)
    refine ⟨.tuple #[.agg #[.int .i64 0, .string ⟨#[]⟩], .bool false], by simp [results, Tryd.results22, go_sem, q0, q1, q2], by rw [HR.out, HO.out]; rfl, TurnIn.of_below hBe⟩
  case stop =>
    rintro D c pre W hD hSp ⟨⟨rfl, pre0, x, rfl, hx, d0, d1, d2⟩, hBw⟩ hK
    obtain ⟨hok, hR⟩ := rebOk_at HD.out hSp hx
    have HO := Lib.hid hok
    have HR := Lib.hid hR
    clear hok hR c0 c1 c2 f0 f1 f2 c7
    gi_wp2_with fail
    refine ⟨by simp, .inl ⟨_, _, rfl, run_takeDeferred hK, ?_⟩⟩
    have hBe := hBw.trans (belowK_b (w := w) (Nat.le_refl _) W D _ (.deferred none) (by omega) hK rfl rfl)
    have q0 := cell_kept d0 (grownBy_putObj' _ D (.deferred none)) (fun r e => by cases e; exact ⟨_, hK, rfl⟩)
    have q1 := cell_kept d1 (grownBy_putObj' _ D (.deferred none)) (fun r e => by cases e; exact ⟨_, hK, rfl⟩)
    have q2 := cell_kept d2 (grownBy_putObj' _ D (.deferred none)) (fun r e => by cases e; exact ⟨_, hK, rfl⟩)
    refine ⟨.tuple #[.agg #[.int .i64 x.1, .string (str x.2)], .bool true], by simp [results, Tryd.results22, go_sem, q0, q1, q2], by rw [HR.out, HO.out], TurnIn.of_below hBe⟩

theorem rebuildShard_own (v : Value) (l : List Sh) (k m no : Int) (w : World) (hv : SeenH w v l) (hln : l.length ≤ 1048576) (ht : Tab w) (h0 : 1 < w.heap.size) :
    Calls Tryd.prog 22 #[v, .int .i64 k, .int .i64 m, .int .i64 no] w (RetShOk w (rebR l k m no) (rebOk l k m no)) := by
  by_cases hd : decOk l k m = true
  · have hbs := shapeOk_b (decOk_shape hd)
    obtain ⟨p, rfl⟩ := Int.eq_ofNat_of_zero_le (show 0 ≤ k by omega)
    obtain ⟨q, rfl⟩ := Int.eq_ofNat_of_zero_le (show 0 ≤ m by omega)
    exact rebuildShard_yes v l p q no w hv hln ht h0 hd
  · exact rebuildShard_no v l k m no w hv hln ht h0 (by simpa using hd)

end Go.Proofs.YtipmfebnjmobfaaDoor
