/- Joined texts: Keeps, Poly1, Poly2, ArrMem, MatMem. -/
import Derived.RangeFuncNested
import Derived.RangeFuncBound
import Derived.RangeFuncCalls
import Derived.RangeFuncLeaves
import Derived.Shelf.Abstract
import Derived.Shelf.RegionOpen
import Derived.WalkKit
import Derived.OwnWalkIn
import Derived.TacticsInMore
import Derived.LoopNIn
import Derived.LoopIn
import Derived.Test.YtblfobbeojdihaaGreatDoorBd02
import Derived.Test.YtblfobbeojdihaaGreatDoorBd01
import Derived.Laws.Rows
import Derived.Laws.Tables
import Derived.Laws.CopyOwn
import Derived.Stop.BytesEq
import Derived.Deep.RegionLaw
set_option linter.unusedSimpArgs false
set_option linter.unusedVariables false
/- What a round of a range over a function keeps. -/
namespace G294
open Go Go.RowKit
/-- what lies below n₀, but for one block, is as it was -/
structure KeepBut (n₀ Bs : Nat) (W W' : World) : Prop where
  os : W'.os = W.os
  tape : W'.tape = W.tape
  output : W'.output = W.output
  size : W.heap.size ≤ W'.heap.size
  block : ∀ k, k < n₀ → k ≠ Bs → W'.heap[k]? = W.heap[k]?
theorem KeepBut.trans {n₀ Bs : Nat} {A B C : World} (h : KeepBut n₀ Bs A B) (k : KeepBut n₀ Bs B C) : KeepBut n₀ Bs A C :=
  ⟨k.os.trans h.os, k.tape.trans h.tape, k.output.trans h.output, Nat.le_trans h.size k.size, fun i hi hne => (k.block i hi hne).trans (h.block i hi hne)⟩
theorem KeepBut.refl (n₀ Bs : Nat) (W : World) : KeepBut n₀ Bs W W := ⟨rfl, rfl, rfl, Nat.le_refl _, fun _ _ _ => rfl⟩
theorem KeepBut.of_below {n₀ Bs : Nat} {W W' : World} (h : Below n₀ W W') : KeepBut n₀ Bs W W' := ⟨h.os, h.tape, h.output, h.size, fun k hk _ => h.block k hk⟩
theorem KeepBut.putObj {n₀ Bs : Nat} {w : World} (hn : n₀ ≤ w.heap.size) (W : World) (l : Nat) (o o' : Obj) (hl : w.heap.size ≤ l) (h : W.heap[l]? = some o) (h1 : o.isCells = false) (h2 : o.isWalk = false) : KeepBut n₀ Bs W (W.putObj l o') :=
  KeepBut.of_below (belowK_b hn W l o o' hl h h1 h2)
theorem KeepBut.cell {n₀ Bs B o : Nat} {W W' : World} (h : KeepBut n₀ Bs W W') (hB : B < n₀) (hne : B ≠ Bs) : W'.cell? ⟨B, o, none⟩ = W.cell? ⟨B, o, none⟩ := World.cell?_of_block (h.block B hB hne)
theorem KeepBut.below {n₀ Bs e : Nat} {w W W' : World} (h : KeepBut n₀ Bs W W') (hb : Below e w W) (h1 : e ≤ Bs) (h2 : e ≤ n₀) : Below e w W' :=
  ⟨h.os.trans hb.os, h.tape.trans hb.tape, h.output.trans hb.output, Nat.le_trans hb.size h.size, fun k hk => (h.block k (by omega) (by omega)).trans (hb.block k hk)⟩
theorem owns_agree {w w' : World} {lo hi size n : Nat} {E : TypeId} {v : Value} {xs : List Value} (h : w.ownsRow lo E size v n xs) (h2 : ∀ g, v.ownBlock = some g → g < hi) (hb : ∀ k, lo ≤ k → k < hi → w'.heap[k]? = w.heap[k]?) : w'.ownsRow lo E size v n xs := by
  refine ⟨h.1, ?_⟩
  rcases h.2 with hn | ⟨g, cap, cur, rfl, hbg, hg, rest⟩
  · exact .inl hn
  · refine .inr ⟨g, cap, cur, rfl, hbg, ?_, rest⟩
    rw [hb g hbg (h2 g rfl)]
    exact hg
/-- one more element in a boxed row that a loop collects -/
theorem collect_step {W w1 : World} {n₀ Bs e0 size : Nat} {t e : TypeId} {v v' : Value} {k mm : Nat} {xs ys : List Value} {tmp : Obj} (hv : Boxed W Bs t v) (hte : t ≠ e) (hrow : W.ownsRow n₀ e size v k xs)
    (hown' : w1.ownsRow n₀ e size v' mm ys) (hgrow : (W.alloc tmp).grownBy w1 v.ownBlock) (h1 : e0 ≤ Bs) (h2 : Bs < n₀) (h3 : n₀ ≤ W.heap.size) :
    Boxed w1 Bs t v ∧ Boxed (w1.setCell ⟨Bs, 0, none⟩ v') Bs t v' ∧ (w1.setCell ⟨Bs, 0, none⟩ v').ownsRow n₀ e size v' mm ys ∧ KeepsOthers W (w1.setCell ⟨Bs, 0, none⟩ v') ∧ KeepBut n₀ Bs W (w1.setCell ⟨Bs, 0, none⟩ v') ∧ n₀ ≤ (w1.setCell ⟨Bs, 0, none⟩ v').heap.size := by
  obtain ⟨hv1, hv2, hr2, hk2, hb2⟩ := hv.appended (n₀ := e0) hte (own_base hrow (by omega)) (by omega) h1 (own_base hown' (by omega)) hgrow
  have hs := hgrow.size
  have hsa := World.size_alloc W tmp
  refine ⟨hv1, hv2, hown'.kept (grownBy_setCell' w1 Bs v') (.inr (fun e' => by have := (hown'.lt Bs e').1; omega)), hk2, ⟨hb2.os, hb2.tape, hb2.output, hb2.size, fun j hj hne => ?_⟩, by simp; omega⟩
  have t1 := (grownBy_setCell' w1 Bs v').block j (by omega) (fun e' => hne (by cases e'; rfl))
  have t2 := hgrow.block j (by omega) (fun e' => by have := (hrow.lt j e'.symm).1; omega)
  have t3 := (turn_alloc W tmp).block j (by omega) (by omega)
  exact t1.trans (t2.trans t3)
end G294

/- The value of a polynomial: the model's and the program's, which ranges over slices.Backward. -/
namespace G294
open Go Go.RowKit
/-- what slices.Backward yields -/
def revL (l : List UInt8) : List (Nat × UInt8) := (List.range l.length).map fun i => (l.length - 1 - i, l.getD (l.length - 1 - i) 0)
@[simp] theorem revL_length (l : List UInt8) : (revL l).length = l.length := by simp [revL]
theorem revL_take (l : List UInt8) (k : Nat) (h : k < l.length) : (revL l).take (k + 1) = (revL l).take k ++ [(l.length - 1 - k, l.getD (l.length - 1 - k) 0)] := by
  rw [List.take_succ_eq_append_getElem (by simpa using h)]; simp [revL]
theorem revL_next (l : List UInt8) (k j : Nat) (hj : l.length - k = j + 1) (hkl : j < l.length) : (revL l).take k ++ [(j, l[j])] = (revL l).take (k + 1) := by
  rw [revL_take l k (by omega), show l.length - 1 - k = j by omega]
  simp [List.getD, hkl]
def hacc (x : UInt8) (pre : List (Nat × UInt8)) : UInt8 := pre.foldl (fun a c => gmul a x ^^^ c.2) 0
theorem hacc_snoc (x : UInt8) (pre : List (Nat × UInt8)) (c : Nat × UInt8) : hacc x (pre ++ [c]) = gmul (hacc x pre) x ^^^ c.2 := by simp [hacc]
theorem hacc_take (x : UInt8) (l : List UInt8) : ∀ k, k ≤ l.length → hacc x ((revL l).take k) = hor x (l.drop (l.length - k)) := by
  intro k
  induction k with
  | zero => intro _; simp [hacc, hor]
  | succ k ih =>
    intro h
    rw [revL_take l k (by omega), hacc_snoc, ih (by omega), hor_drop x l (l.length - (k + 1)) (by omega), show l.length - (k + 1) + 1 = l.length - k by omega]
    show _ ^^^ l.getD (l.length - 1 - k) 0 = _
    have e : l.length - 1 - k = l.length - (k + 1) := by omega
    rw [e]
    simp [List.getD, show l.length - (k + 1) < l.length by omega]
theorem hacc_rev (x : UInt8) (l : List UInt8) : hacc x (revL l) = hor x l := by
  have := hacc_take x l l.length (Nat.le_refl _)
  rwa [List.take_of_length_le (by simp), Nat.sub_self, List.drop_zero] at this
def bkV (x : Nat × UInt8) : Array Value := #[.int .i64 (x.1 : Int), .int .u8 (x.2.toNat : Int)]
end G294
namespace Go.Proofs.YtblfobbeojdihaaGreatDoor
open Go.RowKit Go.Shelf G294

attribute [local go_sem] Oper.semAt_some

set_option maxHeartbeats 1000000 in
theorem l7At_own (v : Value) (l : List UInt8) (x : UInt8) (w : World) (hv : Seen w v (bys l)) :
    Calls Tryz.prog 46 #[v, .int .u8 (x.toNat : Int)] w (RetByte w (hor x l)) := by
  obtain ⟨A, c, rfl, hlc, hcm, hx⟩ := hv
  rw [bys_length] at hlc hx
  simp only [bys_length]
  unfold maxLen at hcm
  generalize hnn : l.length = n at *
  have HN := Lib.hid hnn
  have HE : Hid (hor x (l.drop n) = 0) := by show _ = _; rw [List.drop_of_length_le (by omega)]; rfl
  have HE0 : Hid (hor x (l.drop 0) = hor x l) := rfl
  clear hnn
  go_enter Tryz.func46, Tryz.ntmps46
  go_wp2_with fail
  go_loopw [5, 6] (fun o i wr => ∃ k : Nat, k ≤ n ∧ i = .int .i64 ((k : Int) - 1) ∧ o = .int .u8 ((hor x (l.drop k)).toNat : Int) ∧ Below w.heap.size w wr)
    (fun _ i _ => (intOf i + 1).toNat)
  case atStart => exact ⟨n, Nat.le_refl _, rfl, by rw [HE.out]; rfl, Below.refl _ _⟩
  case round =>
    obtain ⟨k, hk, rfl, rfl, hb⟩ := hrel
    by_cases hlt : 0 < k
    · obtain ⟨j, rfl⟩ : ∃ j, k = j + 1 := ⟨k - 1, by omega⟩
      rw [show ((j + 1 : Nat) : Int) - 1 = (j : Int) by omega]
      obtain ⟨b, off, rfl, hbl, hcell⟩ := hx (by omega)
      have hkl : j < l.length := by rw [HN.out]; omega
      have hcx : wr.cell? ⟨b, off + j, none⟩ = some (.int .u8 ((l[j]).toNat : Int)) := (hb.cell (p := ⟨b, off + j, none⟩) hbl).trans (hcell j _ (bys_get l j hkl))
      have HX := Lib.hid (xor_u8 (gmul (hor x (l.drop (j + 1))) x) l[j])
      have HS := Lib.hid (hor_drop x l j hkl)
      clear hcell hx
      have hki : (j : Int) < (n : Int) := by omega
      have hj0 : (0 : Int) ≤ (j : Int) := by omega
      go_wp2_with fail
      go_quiet ((go_at_call 62; exact quietly (l1Times_u8 _ _ _)))
      go_wp2_with fail
      go_roundw
      case rel => exact ⟨j, by omega, by go_num, by rw [HX.out, HS.out], below_drewN hb _⟩
      case measure => simp [intOf]
    · obtain rfl : k = 0 := by omega
      have hki : ¬ (0 : Int) ≤ ((0 : Nat) : Int) - 1 := by omega
      go_wp2_with fail
      go_ret
      exact ⟨rfl, TurnIn.of_below hb⟩

set_option maxRecDepth 100000 in
set_option maxHeartbeats 1000000 in
/-- slices.Backward boxes its argument and hands back the function -/
theorem backward_any (At : Option Addr) (nt ct : Nat) (w : World) : Calls Tryz.prog 80 #[.slice At nt ct] w fun e w' => e = .returned (.func (.func 98) #[] #[.pointer (some ⟨w.heap.size, 0, none⟩)]) ∧
    w' = w.alloc (.cells #[.slice At nt ct] 22) := by
  go_enter Tryz.func80, Tryz.ntmps80
  go_wp2_with fail
  go_ret
  exact ⟨rfl, rfl⟩

set_option maxRecDepth 100000 in
set_option maxHeartbeats 4000000 in
theorem backward_stops (nF Bs : Nat) (l : List UInt8) (v : Value) (w : World) (Kp : World → World → Prop) (Inv : World → Prop) (hl : l.length ≤ 1000)
    (hInv : ∀ W, Inv W → W.cell? ⟨Bs, 0, none⟩ = some v ∧ Seen W v (bys l))
    (hKp : ∀ W W', Inv W → Kp W W' → Inv W') (hBel : ∀ W W', Inv W → Below W.heap.size W W' → Inv W') (hw : ∀ W, Below w.heap.size w W → Inv W) (hnF : 1 ≤ nF) :
    SeqStopsK Fence.wide nF Tryz.prog 98 #[.pointer (some ⟨Bs, 0, none⟩)] bkV Kp (fun xs => xs = revL l) (fun pre => pre <+: revL l) l.length w := by
  intro lp J Jx W hW hJ hJx hY h0
  have hiv := hw W hW
  obtain ⟨cb, sv⟩ := hInv W hiv
  obtain ⟨A, cp, rfl, hlc, hcm, _⟩ := sv
  rw [bys_length] at hlc
  simp only [bys_length] at *
  unfold maxLen at hcm
  generalize hn : l.length = n at *
  have HN := Lib.hid hn
  have HINV := Lib.hid hInv
  have HKP := Lib.hid hKp
  have HBEL := Lib.hid hBel
  have HY := Lib.hid hY
  clear hInv hKp hBel hY hw hn
  refine callsIn_of_wp Tryz.func98 rfl trivial ?_ rfl
  simp only [Tryz.ntmps98, List.size_toArray, List.length_cons, List.length_nil, Nat.reduceAdd, Nat.reduceSub, Array.replicate_succ, Array.replicate_zero, List.push_toArray, List.append_toArray, List.nil_append, List.cons_append]
  gi_wp2_with fail
  gi_loopw [3] (fun i wr => ∃ k : Nat, k ≤ n ∧ i = .int .i64 (((n - k : Nat) : Int) - 1) ∧ Inv wr ∧ J ((revL l).take k) wr) (fun i _ => (intOf i + 1).toNat)
  case atStart => exact ⟨0, Nat.zero_le _, by simp, hiv, h0⟩
  case round =>
    obtain ⟨k, hk, rfl, hi, hj⟩ := hrel
    clear hiv h0 cb
    by_cases hlt : k < n
    · obtain ⟨j, hj0⟩ : ∃ j, n - k = j + 1 := ⟨n - k - 1, by omega⟩
      rw [hj0, show ((j + 1 : Nat) : Int) - 1 = (j : Int) by omega]
      obtain ⟨cb, sv⟩ := HINV.out _ hi
      obtain ⟨A1, c1, hvv, _, _, hx⟩ := sv
      rw [bys_length, HN.out] at hx hvv
      simp only [Value.slice.injEq] at hvv
      obtain ⟨rfl, _, rfl⟩ := hvv
      obtain ⟨b, off, rfl, hbl, hcell⟩ := hx (by omega)
      have hkl : j < l.length := by rw [HN.out]; omega
      have hcx := hcell j _ (bys_get l j hkl)
      have hki : (j : Int) < (n : Int) := by omega
      have hji : (0 : Int) ≤ (j : Int) := by omega
      obtain ⟨fn, tmps, assign, body, hy, hR⟩ := HY.out _ (j, l[j]) wr hj (by rw [List.length_take, revL_length, HN.out]; omega)
      have HR := Lib.hid hR
      have hpre : (revL l).take k ++ [(j, l[j])] = (revL l).take (k + 1) := revL_next l k j (by rw [HN.out]; exact hj0) hkl
      have HPRE := Lib.hid hpre
      have HJ0 := Lib.hid hj0
      simp only [bkV] at hy
      clear hR hpre hcell hx hj0
      gi_wp2_with fail
      refine HR.out.mono ?_
      rintro e W3 (⟨rfl, hJ3, hk3⟩ | ⟨rfl, hJx3⟩)
      · have hi3 := HKP.out _ _ hi hk3
        rw [HPRE.out] at hJ3
        gi_wp2_with fail
        go_roundw
        case rel => exact ⟨k + 1, by omega, by have := HJ0.out; rw [show n - (k + 1) = j by omega], hi3, hJ3⟩
        case measure => simp [intOf]
      · gi_wp2_with fail
        refine bodyPost_ret (results_none rfl _ _ _) rfl ?_
        exact ⟨⟨_, rfl⟩, .inr ⟨_, by rw [HPRE.out]; exact List.take_prefix _ _, hJx3⟩⟩
    · obtain rfl : k = n := by omega
      have hki : ¬ (0 : Int) ≤ ((k - k : Nat) : Int) - 1 := by omega
      gi_wp2_with fail
      go_end0
      exact ⟨⟨_, rfl⟩, .inl (by rw [List.take_of_length_le (by simp [HN.out])] at hj; exact hj)⟩

end Go.Proofs.YtblfobbeojdihaaGreatDoor

/- valueAt and PolyAt: the program's. -/
namespace Go.Proofs.YtblfobbeojdihaaGreatDoor
open Go.RowKit Go.Shelf G294

attribute [local go_sem] Oper.semAt_some

set_option maxRecDepth 100000 in
set_option maxHeartbeats 4000000 in
theorem valueAt_own (v : Value) (l : List UInt8) (x : UInt8) (w : World) (hv : Seen w v (bys l)) (hl : l.length ≤ 1000) (ht : Tab w) (h0 : 3 < w.heap.size) :
    Calls Tryz.prog 52 #[v, .int .u8 (x.toNat : Int)] w (RetByte w (hor x l)) := by
  have HV := Lib.hid hv
  obtain ⟨A, cp, hvv⟩ := hv.len
  rw [bys_length] at hvv
  subst hvv
  have HT := Lib.hid ht
  have HH := Lib.hid (hacc_rev x l)
  clear ht hv
  have a1 := turn_alloc w (.cells #[.int .u8 (x.toNat : Int)] 5)
  have z1 := World.size_alloc w (.cells #[.int .u8 (x.toNat : Int)] 5)
  have bX0 := Boxed.new w 5 (.int .u8 (x.toNat : Int))
  refine (callsIn_wide (n := 5)).1 ?_
  refine callsIn_of_wp_marks Tryz.func52 rfl trivial ?_ rfl
  simp only [Tryz.ntmps52, List.size_toArray, List.length_cons, List.length_nil, Nat.reduceAdd, Nat.reduceSub, Array.replicate_succ, Array.replicate_zero, List.push_toArray, List.append_toArray, List.nil_append, List.cons_append]
  gi_wp2_with fail
  refine ⟨trivial, ?_⟩
  refine (callsIn_wide.2 (backward_any _ _ _ _)).mono ?_
  rintro e w' ⟨rfl, rfl⟩
  gi_wp2_with fail
  generalize hBe : w.heap.size = B at *
  obtain ⟨W0, hW0⟩ : ∃ W0, W0 = (((w.alloc (.cells #[.int .u8 (x.toNat : Int)] 5)).alloc (.cells #[.int .u8 0] 5)).alloc (.cells #[.slice A l.length cp] 22)) := ⟨_, rfl⟩
  have bX : Boxed W0 B 5 (.int .u8 (x.toNat : Int)) := by rw [hW0]; exact (bX0.alloc _).alloc _
  have bV : Boxed W0 (B + 1) 5 (.int .u8 ((hacc x []).toNat : Int)) := by
    have := (Boxed.new (w.alloc (.cells #[.int .u8 (x.toNat : Int)] 5)) 5 (.int .u8 0)).alloc (.cells #[.slice A l.length cp] 22)
    rw [z1] at this; rw [hW0]; exact this
  have bS : Boxed W0 (B + 1 + 1) 22 (.slice A l.length cp) := by
    have := Boxed.new ((w.alloc (.cells #[.int .u8 (x.toNat : Int)] 5)).alloc (.cells #[.int .u8 0] 5)) 22 (.slice A l.length cp)
    rw [World.size_alloc, z1] at this; rw [hW0]; exact this
  have hsz : W0.heap.size = B + 3 := by rw [hW0]; simp [hBe]
  have k0 : TurnIn 0 0 w W0 := by
    rw [hW0]; exact turn_trans (turn_trans (turn_alloc _ _) (turn_alloc _ _) (by omega)) (turn_alloc _ _) (by omega)
  have hB0 : Below B w W0 := hBe ▸ k0.to_below
  rw [← hW0]
  have HINV : Hid (∀ W W', KeepBut (B + 3) (B + 1) W0 W → (KeepBut (B + 3) (B + 1) W W' ∨ Below W.heap.size W W') → KeepBut (B + 3) (B + 1) W0 W') := fun W W' h h' => by
    rcases h' with h' | h'
    · exact h.trans h'
    · exact h.trans (KeepBut.of_below (h'.mono (by have := h.size; omega)))
  have HB0 := Lib.hid hB0
  have HBE := Lib.hid hBe
  have HTB : Hid (∀ W, Below B w W → Tab W) := fun W h => HT.out.below (HBE.out.symm ▸ h) (by rw [HBE.out]; exact h0)
  clear hW0 k0 a1 z1 bX0 hBe
  refine wpIn_rangeFunc_ownH rfl (by omega) (gf := 98) (lb := #[.pointer (some ⟨B + 1 + 1, 0, none⟩)]) rfl trivial (enters_of Tryz.func98 (by kernel_rfl) rfl)
    (backward_stops _ (B + 1 + 1) l (.slice A l.length cp) W0 (KeepBut (B + 3) (B + 1)) (KeepBut (B + 3) (B + 1) W0) hl
      (fun W hW => ⟨(hW.cell (by omega) (by omega)).trans bS.cell, HV.out.below (HBE.out.symm ▸ hW.below HB0.out (by omega) (by omega))⟩)
      (fun W W' h h' => HINV.out W W' h (.inl h')) (fun W W' h h' => HINV.out W W' h (.inr h')) (fun W h => KeepBut.of_below (h.mono (by omega))) (by omega))
    (fun h h' => h.trans h') (KeepBut.putObj (by omega)) (Below.refl _ _) (fun _ => rfl)
    (fun pre W => Boxed W (B + 1) 5 (.int .u8 ((hacc x pre).toNat : Int)) ∧ Boxed W B 5 (.int .u8 (x.toNat : Int)) ∧ Below B w W ∧ B + 3 ≤ W.heap.size)
    (fun _ _ _ => False)
    (OwnFrom.and (Own.from (boxed_own (B + 1) 5 (fun pre : List (Nat × UInt8) => .int .u8 ((hacc x pre).toNat : Int))) _) (OwnFrom.and (Own.from (boxed_own B 5 (fun pre : List (Nat × UInt8) => .int .u8 (x.toNat : Int))) _) (OwnFrom.and (ownFrom_below (by have := HBE.out; omega) (by omega)) (fun s X Y row hs hg hr => Nat.le_trans hs hg.size))))
    (fun _ _ _ _ _ hs _ _ => hs)
    ⟨bV, bX, HB0.out, by omega⟩
    (fun c a' W => a' = { tmps := #[.slice A l.length cp, .int .u8 (x.toNat : Int), undef, .pointer (some ⟨B, 0, none⟩), .int .u8 0, .pointer (some ⟨B + 1, 0, none⟩), undef, .int .u8 (c.2.toNat : Int),
      .slice A l.length cp, .func (.func 98) #[] #[.pointer (some ⟨B + 1 + 1, 0, none⟩)], .int .i64 (c.1 : Int), .int .u8 (c.2.toNat : Int), undef, undef, undef, undef, undef, undef], defers := [] })
    (fun x a' _ X Y row hs hg hr => hs)
    ?assign ?body ?done ?stop
  case assign =>
    rintro lp pre c W K ⟨hv, hx, hBw, hn0⟩ hK
    simp only [bkV]
    gi_wp2_with fail
    exact hK _ _ ((KeepsOthers.refl _).from _) (KeepBut.refl _ _ _) ⟨hv, hx, hBw, hn0⟩ rfl
  case body =>
    rintro lp pre c a' W hlp ⟨rr, hr⟩ ⟨hv, hx, hBw, hn0⟩ rfl hlt
    obtain ⟨ix, cc⟩ := c
    have hcv := hv.cell
    have hcx := hx.cell
    have hfv := hv.frozen
    have hset := hv.set (.int .u8 ((hacc x (pre ++ [(ix, cc)])).toNat : Int))
    have hx2 : Boxed (W.setCell ⟨B + 1, 0, none⟩ (.int .u8 ((hacc x (pre ++ [(ix, cc)])).toNat : Int))) B 5 (.int .u8 (x.toNat : Int)) := hx.kept (grownBy_setCell' W (B + 1) _) (by simp)
    have hk2 := KeepsOthers.setCell W ⟨B + 1, 0, none⟩ (.int .u8 ((hacc x (pre ++ [(ix, cc)])).toNat : Int))
    have hb2 : KeepBut (B + 3) (B + 1) W (W.setCell ⟨B + 1, 0, none⟩ (.int .u8 ((hacc x (pre ++ [(ix, cc)])).toNat : Int))) := by
      have hg := grownBy_setCell' W (B + 1) (.int .u8 ((hacc x (pre ++ [(ix, cc)])).toNat : Int))
      exact ⟨hg.os, hg.tape, hg.output, hg.size, fun k hk hne => hg.block k (by omega) (fun e => hne (by cases e; rfl))⟩
    have hB2 := hb2.below hBw (by omega) (by omega)
    have HX := Lib.hid (xor_u8 (gmul (hacc x pre) x) cc)
    have HS := Lib.hid (hacc_snoc x pre (ix, cc))
    have HTW := Lib.hid (HTB.out W hBw)
    rw [HS.out, ← HX.out] at hset hx2 hk2 hb2 hB2
    have HSET := Lib.hid hset
    have HX2 := Lib.hid hx2
    have HK2 := Lib.hid hk2
    have HKB := Lib.hid hb2
    have HBB := Lib.hid hB2
    clear hset hx2 hk2 hb2 hB2
    simp only
    gi_wp2_with fail
    refine ⟨trivial, ?_⟩
    refine (callsIn_wide.2 (times_u8 _ _ _ HTW.out)).mono ?_
    rintro e w' ⟨rfl, rfl⟩
    gi_wp2_with fail
    exact ⟨HK2.out.from _, HKB.out, by rw [HS.out, ← HX.out]; exact HSET.out, HX2.out, HBB.out, by simp; omega⟩
  case done =>
    rintro D ys W hD rfl ⟨hv, hx, hBw, hn0⟩ hK
    have hc := hv.cell
    rw [HH.out] at hc
    gi_wp2_with fail
    refine ⟨by simp, .inl ⟨_, _, rfl, run_takeDeferred hK, ?_⟩⟩
    have hBe := (HBE.out ▸ hBw : Below w.heap.size w W).trans (belowK_b (w := w) (Nat.le_refl _) W D _ (.deferred none) (by have := HBE.out; omega) hK rfl rfl)
    exact ⟨_, results_tmp rfl _ _ _, rfl, TurnIn.of_below hBe⟩
  case stop =>
    rintro D c pre W _ _ h _
    exact h.elim

end Go.Proofs.YtblfobbeojdihaaGreatDoor

/- Arrays of bytes as variables: whole loads, stores, copies, comparisons. -/
namespace G294
open Go Go.RowKit
/-- block B is an array variable that holds the bytes l -/
def ArrAt (W : World) (B : Nat) (T : TypeId) (l : List UInt8) : Prop := W.heap[B]? = some (.cells (bys l).toArray T (0, 0))
def aggL (l : List UInt8) : Value := .agg (bys l).toArray
section
variable {P : Program} {w w' : World} {B T a b : Nat} {l m : List UInt8}
theorem ArrAt.lt (h : ArrAt w B T l) : B < w.heap.size := (Array.getElem?_eq_some_iff.1 h).1
theorem ArrAt.new (w : World) (T : TypeId) (l : List UInt8) : ArrAt (w.alloc (.cells (bys l).toArray T)) w.heap.size T l := heap_alloc_new w _
theorem ArrAt.keep (h : ArrAt w B T l) (t : TurnIn a b w w') (d : B < a ∨ b ≤ B) : ArrAt w' B T l := (t.block B h.lt d).trans h
theorem ArrAt.cell (h : ArrAt w B T l) (k : Nat) (hk : k < l.length) : w.cell? ⟨B, k, none⟩ = some (.int .u8 (l[k].toNat : Int)) := by
  rw [cell_of_row w B k _ T _ h, List.getElem?_toArray, bys_get l k hk]
theorem ArrAt.cellAt (h : ArrAt w B T l) {k : Nat} {x : UInt8} (hk : l[k]? = some x) : w.cell? ⟨B, k, none⟩ = some (.int .u8 (x.toNat : Int)) := by
  obtain ⟨hl, rfl⟩ := List.getElem?_eq_some_iff.1 hk
  exact h.cell k hl
theorem ArrAt.frozen (h : ArrAt w B T l) (k : Nat) : w.frozen? ⟨B, k, none⟩ = false := frozen_of_row w B k _ T h
theorem ArrAt.seen (h : ArrAt w B T l) {n : Nat} (hn : l.length = n) (hm : n ≤ 1000) : Seen w (.slice (some ⟨B, 0, none⟩) n n) (bys l) :=
  ⟨_, n, by simp [hn], by simp [hn], by unfold maxLen; omega, fun _ => ⟨B, 0, rfl, h.lt, fun i u hu => by
    rw [cell_of_row w B _ _ T _ h, List.getElem?_toArray, Nat.zero_add]; exact hu⟩⟩
theorem bys_set (l : List UInt8) (k : Nat) (x : UInt8) : bys (l.set k x) = (bys l).set k (.int .u8 (x.toNat : Int)) := by simp [bys, List.map_set]
theorem ArrAt.set (h : ArrAt w B T l) (k : Nat) (x : UInt8) : ArrAt (w.setCell ⟨B, k, none⟩ (.int .u8 (x.toNat : Int))) B T (l.set k x) := by
  unfold ArrAt
  rw [heap_setCell_same w B k _ T _ h, bys_set]
  simp
theorem turn_set (w : World) (B o : Nat) (x : Value) : TurnIn B (B + 1) w (w.setCell ⟨B, o, none⟩ x) :=
  ⟨rfl, rfl, rfl, by simp, fun k hk hd => heap_setCell_other w _ k x (by rcases hd with h | h <;> simp <;> omega)⟩
theorem ArrAt.row (h : ArrAt w B T l) (m : List UInt8) : ArrAt (w.setRow B (bys m).toArray) B T m := setRow_heap w B _ _ T _ h
theorem turn_row (w : World) (B : Nat) (x : Array Value) : TurnIn B (B + 1) w (w.setRow B x) :=
  ⟨rfl, rfl, rfl, by simp, fun k hk hd => setRow_other w B k x (by omega)⟩
theorem turn_drewA {a b : Nat} {w w' : World} (t : TurnIn a b w w') : TurnIn a b w w'.drew := ⟨t.os, t.tape, t.output, t.size, t.block⟩
theorem drew_turnA (w : World) : TurnIn 0 0 w w.drew := ⟨rfl, rfl, rfl, Nat.le_refl _, fun _ _ _ => rfl⟩
theorem undrewA {a b : Nat} {w w' : World} (t : TurnIn a b w.drew w') : TurnIn a b w w' := ⟨t.os, t.tape, t.output, t.size, t.block⟩
theorem cell_keepA {w w' : World} {B o a b : Nat} {x : Value} (h : w.cell? ⟨B, o, none⟩ = some x) (hl : B < w.heap.size) (t : TurnIn a b w w') (d : B < a ∨ b ≤ B) : w'.cell? ⟨B, o, none⟩ = some x := (World.cell?_of_block (t.block B hl d)).trans h
theorem turn_from {n : Nat} {a b : World} (h : Below n a b) : TurnIn n a.heap.size a b := ⟨h.os, h.tape, h.output, h.size, fun k hk hd => h.block k (by omega)⟩
theorem bys_all (l : List UInt8) : (bys l).toArray.all (·.oneCell') = true := by
  rw [Array.all_eq_true_iff_forall_mem]
  intro x hx
  exact bys_one x l (by simpa using hx)
end
section
variable {P : Program} {ops : Array Oper} {rest : List Oper} {o : Oper} {a : Act} {w : World} {Q : Exit → Act → World → Prop}
/-- a new array variable -/
theorem wpList_alloc_arr (hgd : o.guard = none) (ty : TypeId) (ho : o.op = .alloc ty) (z : List UInt8) (hz : (P.info? ty).map (·.zero) = some (some (aggL z)))
    (h : ∀ W', Hid (W' = w.alloc (.cells (bys z).toArray ty)) → wpList P ops Q rest (a.put o.dst (.pointer (some ⟨w.heap.size, 0, none⟩))) W') : wpList P ops Q (o :: rest) a w := by
  refine wpList_plain hgd fun K hK => ?_
  cases hq : P.info? ty with
  | none => simp [hq] at hz
  | some i =>
    simp [hq, aggL] at hz
    have := hK _ _ (h _ rfl)
    unfold Oper.wp execOp
    simpa [ho, Instr.alloc, zeroValue, typeInfo, hq, hz, newVar, newRow, Value.cells, Result.andThen, Oper.upon] using this
/-- an array parameter is boxed -/
theorem wpList_box_arr (hgd : o.guard = none) (ty : TypeId) (x : Operand) (ho : o.op = .box ty x) (z : List UInt8) (hx : a.eval x = aggL z)
    (h : ∀ W', Hid (W' = w.alloc (.cells (bys z).toArray ty)) → wpList P ops Q rest (a.put o.dst (.pointer (some ⟨w.heap.size, 0, none⟩))) W') : wpList P ops Q (o :: rest) a w := by
  refine wpList_plain hgd fun K hK => ?_
  have := hK _ _ (h _ rfl)
  unfold Oper.wp execOp
  simpa [ho, hx, aggL, Instr.box, newVar, newRow, Value.cells, Result.andThen, Oper.upon] using this
theorem wpList_store_arr (hgd : o.guard = none) (ty : TypeId) (x y : Operand) (ho : o.op = .store ty x y) (g n : Nat) (t : TypeId) (l0 l : List UInt8) (hx : a.eval x = .pointer (some ⟨g, 0, none⟩)) (hy : a.eval y = aggL l)
    (hg : ArrAt w g t l0) (hi : (P.info? ty).map (·.size) = some n) (h0 : l0.length = n) (hl : l.length = n)
    (h : ∀ W', Hid (W' = w.setRow g (bys l).toArray) → wpList P ops Q rest (a.put o.dst undef) W') : wpList P ops Q (o :: rest) a w :=
  wpList_store_row hgd ty x y ho g (bys l).toArray hx hy t (bys l0).toArray hg (by rw [hi]; simp [hl]) (by simp [h0, hl]) (bys_all l) (h _ rfl)
theorem wpList_load_arr (hgd : o.guard = none) (ty : TypeId) (x : Operand) (ho : o.op = .load ty x) (g n k : Nat) (e t : TypeId) (l : List UInt8) (hx : a.eval x = .pointer (some ⟨g, 0, none⟩))
    (hg : ArrAt w g t l) (hi : (P.info? ty).map (·.size) = some n) (hu : P.underlying ty = some (.array k e)) (hl : l.length = n)
    (h : ∀ u, Hid (u = aggL l) → wpList P ops Q rest (a.put o.dst u) w) : wpList P ops Q (o :: rest) a w :=
  wpList_load_row hgd ty x ho g hx t (bys l).toArray (0, 0) _ hg hu rfl (by rw [hi]; simp [hl]) (h _ rfl)
theorem wpList_index_arr (hgd : o.guard = none) (ty : TypeId) (x ix : Operand) (ho : o.op = .index ty x ix) (l : List UInt8) (k n : Nat) (e : TypeId) (hx : a.eval x = aggL l) (hix : a.eval ix = .int .i64 (k : Int)) (hu : P.underlying ty = some (.array n e))
    (he : P.underlying e = some (.int .u8)) (hs : (P.info? e).map (·.size) = some 1) (hn : l.length = n) (hk : k < l.length) (h : ∀ u, Hid (u = .int .u8 (l[k].toNat : Int)) → wpList P ops Q rest (a.put o.dst u) w) : wpList P ops Q (o :: rest) a w := by
  refine wpList_plain hgd fun K hK => ?_
  have := hK _ _ (h _ rfl)
  cases hq : P.info? e with
  | none => simp [hq] at hs
  | some i =>
    simp [hq] at hs
    have h1 : (0 : Int) ≤ (k : Int) ∧ (k : Int) < (n : Int) := by omega
    have h2 : (bys l).toArray[k]? = some (.int .u8 (l[k].toNat : Int)) := by rw [List.getElem?_toArray, bys_get l k hk]
    unfold Oper.wp execOp
    have h3 : k < n := by omega
    simpa [ho, hx, hix, aggL, Instr.index, asIntOf, run_underlying hu, h3, Go.sizeOf, typeInfo, hq, hs, part, isAgg, run_underlying he, h2, bys_get l k hk, Result.andThen, Oper.upon] using this
/-- two arrays compared -/
theorem wpList_eql_arr (hgd : o.guard = none) (ty ty2 : TypeId) (x y : Operand) (ho : o.op = .binOp .eql ty x y ty2) (u v : Value) (hx : a.eval x = u) (hy : a.eval y = v) (hq : (eqGuard .eql ty x y u v).run P w = .ok () w) {r : Bool} (hr : (binOp .eql ty u v).run P w = .ok (.bool r) w)
    (h : wpList P ops Q rest (a.put o.dst (.bool r)) w) : wpList P ops Q (o :: rest) a w := by
  refine wpList_plain hgd fun K hK => ?_
  have := hK _ _ h
  unfold Oper.wp execOp
  simpa [ho, hx, hy, hq, hr, Result.andThen, Oper.upon] using this
/-- an array result -/
theorem ret_arr {fn : Func} {p : Tmp} {ty : TypeId} (h : fn.results = #[.cell p ty]) (tmps : Array Value) (g n k : Nat) (t e : TypeId) (l : List UInt8) (hp : tmps.getD p undef = .pointer (some ⟨g, 0, none⟩)) (hg : ArrAt w g t l)
    (hu : P.underlying ty = some (.array k e)) (hi : (P.info? ty).map (·.size) = some n) (hl : l.length = n) : (results fn tmps).run P w = .ok (aggL l) w :=
  results_cell_row h tmps w g t (bys l).toArray (0, 0) _ hp hg hu rfl (by rw [hi]; simp [hl])
end
theorem stillA {P : Program} {f : FuncId} {args : Array Value} {w : World} {v : Value} (h : Calls P f args w fun e w' => e = .returned v ∧ w = w') :
    Calls P f args w fun e w' => e = .returned v ∧ w' = w := h.mono fun _ _ ⟨he, hw⟩ => ⟨he, hw.symm⟩
/-- a multiple of V added to the first k elements of M -/
def mixK (f : UInt8) (M V : List UInt8) (k : Nat) : List UInt8 := (addL M (scaleL f V)).take k ++ M.drop k
theorem mixK_zero (f : UInt8) (M V : List UInt8) : mixK f M V 0 = M := by simp [mixK]
theorem mixK_end (f : UInt8) (M V : List UInt8) (h : M.length = V.length) (k : Nat) (hk : M.length ≤ k) : mixK f M V k = addL M (scaleL f V) := by
  unfold mixK
  rw [List.take_of_length_le (by rw [addL_lenS _ _ (by rw [scaleL_lenS, h])]; exact hk), List.drop_of_length_le hk, List.append_nil]
theorem mixK_len (f : UInt8) (M V : List UInt8) (h : M.length = V.length) (k : Nat) (hk : k ≤ M.length) : (mixK f M V k).length = M.length := by
  simp [mixK, addL_lenS _ _ (show M.length = (scaleL f V).length by rw [scaleL_lenS, h])]; omega
theorem mixK_get (f : UInt8) (M V : List UInt8) (h : M.length = V.length) (k : Nat) (hk : k < M.length) : (mixK f M V k)[k]? = some M[k] := by
  have hl := addL_lenS M (scaleL f V) (by rw [scaleL_lenS, h])
  show ((addL M (scaleL f V)).take k ++ M.drop k)[k]? = _
  rw [List.getElem?_append_right (by rw [List.length_take, hl]; omega)]
  simp [List.length_take, hl, Nat.min_eq_left (Nat.le_of_lt hk)]
theorem mixK_set (f : UInt8) (M V : List UInt8) (h : M.length = V.length) (k : Nat) (hk : k < M.length) (hv : k < V.length) : (mixK f M V k).set k (M[k] ^^^ gmul f V[k]) = mixK f M V (k + 1) := by
  unfold mixK
  have hl := addL_lenS M (scaleL f V) (by rw [scaleL_lenS, h])
  refine take_set_over _ _ k _ ?_ hl
  simp [addL, scaleL, List.getElem?_zipWith, hk, hv]
end G294

/- Slices of slices of bytes in memory: read, lying in an interval of blocks, and of the call's own with no two rows in one block. -/
namespace G294
open Go Go.RowKit

/-- the value v is seen in w as the rows L -/
def SeenM (w : World) (v : Value) (L : Mat) : Prop := ∃ vs : List Value, vs.length = L.length ∧ Seen w v vs ∧ ∀ i u, vs[i]? = some u → Seen w u (bys (L.getD i []))
section
variable {w w' : World} {v : Value} {L : Mat} {lo hi a b : Nat} {E EE : TypeId} {vs : List Value}
theorem SeenM.below (h : SeenM w v L) (hb : Below w.heap.size w w') : SeenM w' v L := by
  obtain ⟨vs, h1, h2, h3⟩ := h
  exact ⟨vs, h1, h2.below hb, fun i u hu => (h3 i u hu).below hb⟩
theorem SeenM.touch (h : SeenM w v L) (t : TurnIn 0 0 w w') : SeenM w' v L := h.below t.to_below
theorem SeenM.len (h : SeenM w v L) : ∃ A c, v = .slice A L.length c ∧ L.length ≤ c ∧ c ≤ maxLen := by
  obtain ⟨vs, h1, ⟨A, c, h2, h3, h4, _⟩, _⟩ := h
  exact ⟨A, c, by rw [h2, h1], by omega, h4⟩
/-- row i -/
theorem SeenM.row (h : SeenM w v L) (i : Nat) (hi : i < L.length) : ∃ bb off c u, v = .slice (some ⟨bb, off, none⟩) L.length c ∧ L.length ≤ c ∧ c ≤ maxLen ∧ bb < w.heap.size ∧ w.cell? ⟨bb, off + i, none⟩ = some u ∧ Seen w u (bys (L.getD i [])) := by
  obtain ⟨vs, h1, ⟨A, c, h2, h3, h4, h5⟩, h6⟩ := h
  obtain ⟨bb, off, rfl, hb, hc⟩ := h5 (by omega)
  have hi' : i < vs.length := by omega
  have e : vs[i]? = some vs[i] := List.getElem?_eq_getElem hi'
  exact ⟨bb, off, c, vs[i], by rw [h2, h1], by omega, h4, hb, hc i _ e, h6 i _ e⟩
/-- entry i, j -/
theorem SeenM.cell (h : SeenM w v L) (i j : Nat) (hi : i < L.length) (hj : j < (L.getD i []).length) : ∃ bb off c b' off' c', v = .slice (some ⟨bb, off, none⟩) L.length c ∧ L.length ≤ maxLen ∧ bb < w.heap.size ∧ b' < w.heap.size ∧
    w.cell? ⟨bb, off + i, none⟩ = some (.slice (some ⟨b', off', none⟩) (L.getD i []).length c') ∧ (L.getD i []).length ≤ maxLen ∧ w.cell? ⟨b', off' + j, none⟩ = some (.int .u8 ((ent L i j).toNat : Int)) := by
  obtain ⟨bb, off, c, u, h1, h2, h3, h4, h5, ⟨A, c', h6, h7, h8, h9⟩⟩ := h.row i hi
  rw [bys_length] at h6 h7 h9
  obtain ⟨b', off', rfl, hb', hc'⟩ := h9 (by omega)
  refine ⟨bb, off, c, b', off', c', h1, by omega, h4, hb', by rw [h5, h6], by omega, ?_⟩
  rw [hc' j _ (bys_get _ j hj)]
  have e : ent L i j = (L.getD i [])[j] := by
    unfold ent
    generalize L.getD i [] = l at hj ⊢
    simp [List.getD, hj]
  rw [e]

theorem owns_turn {n : Nat} {xs : List Value} (h : w.ownsRow lo E 1 v n xs) (h2 : ∀ g, v.ownBlock = some g → g < hi) (t : TurnIn a b w w') (d : hi ≤ a ∨ b ≤ lo) : w'.ownsRow lo E 1 v n xs := by
  refine ⟨h.1, ?_⟩
  rcases h.2 with hn | ⟨g, cap, cur, rfl, hbg, hg, rest⟩
  · exact .inl hn
  · refine .inr ⟨g, cap, cur, rfl, hbg, ?_, rest⟩
    have := h2 g rfl
    rw [t.block g (Array.getElem?_eq_some_iff.1 hg).1 (by omega)]
    exact hg
theorem OwnBytes.wider {l : List UInt8} {lo' hi' : Nat} (h : OwnBytes E w lo hi v l) (h1 : lo' ≤ lo) (h2 : hi ≤ hi') (h3 : hi' ≤ w.heap.size) : OwnBytes E w lo' hi' v l :=
  ⟨own_base h.1 h1, h3, fun g hg => by have := h.2.2 g hg; omega⟩
theorem OwnBytes.other {l : List UInt8} {row : Option Nat} (h : OwnBytes E w lo hi v l) (hg : w.grownBy w' row) (hne : ∀ g, v.ownBlock = some g → row ≠ some g) : OwnBytes E w' lo hi v l :=
  ⟨own_other h.1 hg hne, Nat.le_trans h.2.1 hg.size, h.2.2⟩

/-- rows of the call's own, in blocks from lo to hi, no two in one block; vs: the rows' values -/
structure OwnM (E EE : TypeId) (w : World) (lo hi : Nat) (v : Value) (L : Mat) (vs : List Value) : Prop where
  row : w.ownsRow lo EE 1 v L.length vs
  top : hi ≤ w.heap.size
  out : ∀ g, v.ownBlock = some g → g < hi
  rows : ∀ (i : Nat) (u : Value), vs[i]? = some u → OwnBytes E w lo hi u (L.getD i [])
  apart : ∀ (i : Nat) (u : Value) (g : Nat), vs[i]? = some u → u.ownBlock = some g → v.ownBlock ≠ some g ∧ ∀ (j : Nat) (u' : Value), vs[j]? = some u' → u'.ownBlock = some g → j = i
theorem OwnM.vlen (h : OwnM E EE w lo hi v L vs) : vs.length = L.length := by have := h.row.1; omega
theorem OwnM.keep (h : OwnM E EE w lo hi v L vs) (t : TurnIn a b w w') (d : hi ≤ a ∨ b ≤ lo) : OwnM E EE w' lo hi v L vs :=
  ⟨owns_turn h.row h.out t d, Nat.le_trans h.top t.size, h.out, fun i u hu => (h.rows i u hu).keep t d, h.apart⟩
theorem OwnM.seen (h : OwnM E EE w lo hi v L vs) : SeenM w v L := ⟨vs, h.vlen, Seen.of_own h.row, fun i u hu => (h.rows i u hu).seen⟩
theorem OwnM.wider {lo' hi' : Nat} (h : OwnM E EE w lo hi v L vs) (h1 : lo' ≤ lo) (h2 : hi ≤ hi') (h3 : hi' ≤ w.heap.size) : OwnM E EE w lo' hi' v L vs :=
  ⟨own_base h.row h1, h3, fun g hg => by have := h.out g hg; omega, fun i u hu => (h.rows i u hu).wider h1 h2 h3, h.apart⟩
theorem OwnM.at (h : OwnM E EE w lo hi v L vs) (i : Nat) (hi' : i < L.length) : ∃ u, vs[i]? = some u ∧ OwnBytes E w lo hi u (L.getD i []) := by
  have hl := h.vlen
  have e : vs[i]? = some (vs[i]'(by omega)) := List.getElem?_eq_getElem (by omega)
  exact ⟨_, e, h.rows i _ e⟩
theorem OwnM.congr {L' : Mat} (h : OwnM E EE w lo hi v L vs) (e : L = L') : OwnM E EE w lo hi v L' vs := e ▸ h
theorem OwnM.nil (E EE : TypeId) (w : World) (lo : Nat) : OwnM E EE w lo w.heap.size (.slice none 0 0) [] [] :=
  ⟨World.ownsRow_nil _ _ _ _, Nat.le_refl _, fun g h => by simp [Value.ownBlock] at h, fun i u h => by simp at h, fun i u g h => by simp at h⟩
theorem getD_set {α : Type} (l : List α) (k i : Nat) (x d : α) (hk : k < l.length) : (l.set k x).getD i d = if i = k then x else l.getD i d := by
  simp only [List.getD, List.getElem?_set]
  by_cases h : k = i
  · subst h; simp [hk]
  · have h' : ¬ i = k := fun e => h e.symm
    simp [h, h']
theorem get_set {α : Type} {l : List α} {k i : Nat} {x u : α} (h : (l.set k x)[i]? = some u) : (i = k ∧ u = x) ∨ (i ≠ k ∧ l[i]? = some u) := by
  rw [List.getElem?_set] at h
  by_cases e : k = i
  · subst e
    simp only [if_true] at h
    split at h
    · exact .inl ⟨rfl, (Option.some.inj h).symm⟩
    · simp at h
  · rw [if_neg e] at h
    exact .inr ⟨fun e' => e e'.symm, h⟩
/-- a new row is stored -/
theorem OwnM.put {g n cap k : Nat} {u : Value} {r : List UInt8} (h : OwnM E EE w lo hi (.slice (some ⟨g, 0, none⟩) n cap) L vs) (hn : n = L.length) (hk : k < L.length)
    (hu : OwnBytes E w a b u r) (h1 : hi ≤ a) (h2 : lo ≤ a) (h3 : a ≤ b) : OwnM E EE (w.setCell ⟨g, k, none⟩ u) lo b (.slice (some ⟨g, 0, none⟩) n cap) (L.set k r) (vs.set k u) := by
  subst hn
  have hst := h.row.stored k u
  have hg := h.out g rfl
  have hug : ∀ g', u.ownBlock = some g' → a ≤ g' ∧ g' < b := fun g' e => ⟨(hu.1.lt g' e).1, hu.2.2 g' e⟩
  have hold : ∀ (i : Nat) (u' : Value) (g' : Nat), vs[i]? = some u' → u'.ownBlock = some g' → g' < hi := fun i u' g' e1 e2 => (h.rows i u' e1).2.2 g' e2
  have hu' : OwnBytes E (w.setCell ⟨g, k, none⟩ u) lo b u r := (hu.other hst.2 (fun g' e => by have := hug g' e; simp; omega)).wider h2 (Nat.le_refl _) (by simpa using hu.2.1)
  refine ⟨by simpa using hst.1, by simpa using hu.2.1, fun g' e => by simp [Value.ownBlock] at e; omega, ?_, ?_⟩
  · intro i u' hi'
    rw [getD_set _ _ _ _ _ hk]
    rcases get_set hi' with ⟨rfl, rfl⟩ | ⟨hne, hi'⟩
    · simpa using hu'
    · rw [if_neg hne]
      exact ((h.rows i u' hi').other hst.2 (fun g' e => fun e2 => (h.apart i u' g' hi' e).1 (by simpa [Value.ownBlock] using e2))).wider (Nat.le_refl _) (by omega) (by simpa using hu.2.1)
  · intro i u' g' hi' hg'
    rcases get_set hi' with ⟨rfl, rfl⟩ | ⟨hne, hi2⟩
    · have := hug g' hg'
      refine ⟨by simp [Value.ownBlock]; omega, fun j u'' hj hg'' => ?_⟩
      rcases get_set hj with ⟨rfl, rfl⟩ | ⟨hne2, hj⟩
      · rfl
      · have := hold j u'' g' hj hg''; omega
    · refine ⟨(h.apart i u' g' hi2 hg').1, fun j u'' hj hg'' => ?_⟩
      rcases get_set hj with ⟨rfl, rfl⟩ | ⟨hne2, hj⟩
      · have := hug g' hg''; have := hold i u' g' hi2 hg'; omega
      · exact (h.apart i u' g' hi2 hg').2 j u'' hj hg''
/-- one row turns into another of the same length, in place -/
theorem OwnM.row_turn {k : Nat} {u : Value} {r : List UInt8} (h : OwnM E EE w lo hi v L vs) (hk : k < L.length) (hu : vs[k]? = some u) (hg : w.grownBy w' u.ownBlock)
    (ho : w'.ownsRow lo E 1 u r.length (bys r)) : OwnM E EE w' lo hi v (L.set k r) vs := by
  refine ⟨?_, Nat.le_trans h.top hg.size, h.out, ?_, h.apart⟩
  · rw [List.length_set]
    refine own_other h.row hg (fun g e1 e2 => (h.apart k u g hu e2).1 e1)
  · intro i u' hi'
    rw [getD_set _ _ _ _ _ hk]
    by_cases e : i = k
    · subst e
      obtain rfl : u = u' := Option.some.inj (hu.symm.trans hi')
      rw [if_pos rfl]
      exact ⟨ho, Nat.le_trans h.top hg.size, (h.rows i u hi').2.2⟩
    · rw [if_neg e]
      exact (h.rows i u' hi').other hg (fun g e1 e2 => e ((h.apart k u g hu e2).2 i u' hi' e1))
/-- one entry is stored -/
theorem OwnM.store {k j bb m cap' : Nat} {x : UInt8} (h : OwnM E EE w lo hi v L vs) (hk : k < L.length) (hu : vs[k]? = some (.slice (some ⟨bb, 0, none⟩) m cap')) :
    OwnM E EE (w.setCell ⟨bb, j, none⟩ (.int .u8 (x.toNat : Int))) lo hi v (L.set k ((L.getD k []).set j x)) vs := by
  have ho := (h.rows k _ hu).1
  have hm : m = (L.getD k []).length := by
    rcases ho.2 with ⟨hh, _⟩ | ⟨g', c', cur, hh, _⟩
    · simp at hh
    · simp at hh; exact hh.2.1
  rw [← hm] at ho
  have hst := ho.stored j (.int .u8 (x.toNat : Int))
  refine h.row_turn hk hu hst.2 ?_
  rw [List.length_set, ← hm]
  have e : bys ((L.getD k []).set j x) = (bys (L.getD k [])).set j (.int .u8 (x.toNat : Int)) := by simp [bys, List.map_set]
  rw [e]
  exact hst.1
/-- the value of a row that is not empty -/
theorem OwnBytes.slice {l : List UInt8} (h : OwnBytes E w lo hi v l) (hl : 0 < l.length) : ∃ g cap, v = .slice (some ⟨g, 0, none⟩) l.length cap ∧ lo ≤ g ∧ g < hi ∧ l.length ≤ cap ∧ cap ≤ maxLen := by
  rcases h.1.2 with ⟨_, hn⟩ | ⟨g, cap, cur, hh, hb, hg, hc1, hc2, _⟩
  · omega
  · exact ⟨g, cap, hh, hb, h.2.2 g (by rw [hh]; rfl), hc1, hc2⟩
theorem OwnM.slice (h : OwnM E EE w lo hi v L vs) (hl : 0 < L.length) : ∃ g cap, v = .slice (some ⟨g, 0, none⟩) L.length cap ∧ lo ≤ g ∧ g < hi ∧ L.length ≤ cap ∧ cap ≤ maxLen := by
  rcases h.row.2 with ⟨_, hn⟩ | ⟨g, cap, cur, hh, hb, hg, hc1, hc2, _⟩
  · omega
  · exact ⟨g, cap, hh, hb, h.out g (by rw [hh]; rfl), hc1, hc2⟩
theorem OwnM.isSlice (h : OwnM E EE w lo hi v L vs) : ∃ A n c, v = .slice A n c := by
  rcases h.row.2 with ⟨hh, _⟩ | ⟨g, cap, cur, hh, _⟩ <;> exact ⟨_, _, _, hh⟩
theorem OwnM.cellAt {g n cap k : Nat} {u : Value} (h : OwnM E EE w lo hi (.slice (some ⟨g, 0, none⟩) n cap) L vs) (hk : vs[k]? = some u) : w.cell? ⟨g, k, none⟩ = some u := by
  have hc := h.row.cells (g := g) rfl k u hk
  rwa [Addr.add_lit, Nat.zero_add] at hc
theorem OwnM.frozenAt {g n cap : Nat} (h : OwnM E EE w lo hi (.slice (some ⟨g, 0, none⟩) n cap) L vs) (k : Nat) : w.frozen? ⟨g, k, none⟩ = false := by
  have hn : n = L.length := by
    rcases h.row.2 with ⟨hh, _⟩ | ⟨g', c', cur, hh, _⟩
    · simp at hh
    · simp at hh; exact hh.2.1
  exact (hn ▸ h.row : w.ownsRow lo EE 1 (.slice (some ⟨g, 0, none⟩) n cap) n vs).frozenAt k
theorem OwnBytes.cellAt {g n cap k : Nat} {l : List UInt8} (h : OwnBytes E w lo hi (.slice (some ⟨g, 0, none⟩) n cap) l) (hk : k < l.length) : w.cell? ⟨g, k, none⟩ = some (.int .u8 ((l.getD k 0).toNat : Int)) := by
  have hc := h.1.cells (g := g) rfl k _ (bys_get l k hk)
  rw [Addr.add_lit, Nat.zero_add] at hc
  rw [hc]; simp [List.getD, hk]
theorem OwnBytes.frozenAt {g n cap : Nat} {l : List UInt8} (h : OwnBytes E w lo hi (.slice (some ⟨g, 0, none⟩) n cap) l) (k : Nat) : w.frozen? ⟨g, k, none⟩ = false := by
  have hn : n = l.length := by
    rcases h.1.2 with ⟨hh, _⟩ | ⟨g', c', cur, hh, _⟩
    · simp at hh
    · simp at hh; exact hh.2.1
  exact (hn ▸ h.1 : w.ownsRow lo E 1 (.slice (some ⟨g, 0, none⟩) n cap) n (bys l)).frozenAt k
theorem bys_zero (c : Nat) (f : Nat → UInt8) (h : ∀ j, j < c → f j = 0) : bys (mkRow c f) = List.replicate c (.int .u8 0) := by
  rw [mkRow_congr (g := fun _ => 0) h]
  simp [bys, mkRow, List.map_const']
theorem OwnM.drewN (h : OwnM E EE w lo hi v L vs) (q : Nat) : OwnM E EE (w.drewN q) lo hi v L vs := h.keep (a := 0) (b := 0) ⟨rfl, rfl, rfl, Nat.le_refl _, fun _ _ _ => rfl⟩ (by omega)
theorem mkM_store (r c : Nat) (F : Ents) (k j : Nat) (x : UInt8) (hk : k < r) : (mkM r c F).set k (((mkM r c F).getD k []).set j x) = mkM r c (fun i jj => if i = k ∧ jj = j then x else F i jj) := by
  rw [mkM_getD _ _ _ _ hk, mkRow_set, mkM_set]
  apply mkM_congr
  intro i jj hi hj
  by_cases h1 : i = k
  · subst h1; simp
  · simp [h1]
theorem OwnM.storeF {r c k j bb m cap' : Nat} {F : Ents} {x : UInt8} (h : OwnM E EE w lo hi v (mkM r c F) vs) (hk : k < r) (hu : vs[k]? = some (.slice (some ⟨bb, 0, none⟩) m cap')) :
    OwnM E EE (w.setCell ⟨bb, j, none⟩ (.int .u8 (x.toNat : Int))) lo hi v (mkM r c fun i jj => if i = k ∧ jj = j then x else F i jj) vs :=
  (h.store (by simpa using hk) hu).congr (mkM_store r c F k j x hk)
/-- row k of rows of the call's own -/
theorem OwnM.rowF {r c : Nat} {F : Ents} (h : OwnM E EE w lo hi v (mkM r c F) vs) (k : Nat) (hk : k < r) (hc : 0 < c) : ∃ bb cp, vs[k]? = some (.slice (some ⟨bb, 0, none⟩) c cp) ∧ lo ≤ bb ∧ bb < hi ∧ v.ownBlock ≠ some bb ∧ c ≤ cp ∧ cp ≤ maxLen ∧
    (∀ j, w.frozen? ⟨bb, j, none⟩ = false) ∧ ∀ j, j < c → w.cell? ⟨bb, j, none⟩ = some (.int .u8 ((F k j).toNat : Int)) := by
  obtain ⟨u, hu, ho⟩ := h.at k (by simpa using hk)
  rw [mkM_getD _ _ _ _ hk] at ho
  obtain ⟨bb, cp, rfl, h1, h2, h3, h4⟩ := ho.slice (by simpa using hc)
  rw [mkRow_length] at ho hu h3
  refine ⟨bb, cp, hu, h1, h2, (h.apart k _ bb hu rfl).1, h3, h4, ho.frozenAt, fun j hj => ?_⟩
  have := ho.cellAt (k := j) (by simpa using hj)
  rwa [mkRow_getD _ _ _ hj] at this
theorem OwnM.sliceF {r c : Nat} {F : Ents} (h : OwnM E EE w lo hi v (mkM r c F) vs) (hr : 0 < r) : ∃ g cp, v = .slice (some ⟨g, 0, none⟩) r cp ∧ lo ≤ g ∧ g < hi ∧ r ≤ cp ∧ cp ≤ maxLen := by
  have := h.slice (by simpa using hr)
  simpa using this

/-- two rows change places -/
theorem OwnM.swap {g n cap p q : Nat} {up uq : Value} {L' : Mat} (h : OwnM E EE w lo hi (.slice (some ⟨g, 0, none⟩) n cap) L vs) (hn : n = L.length) (hp : vs[p]? = some up) (hq : vs[q]? = some uq)
    (hl : L'.length = L.length) (hL : ∀ i, i < L.length → L'.getD i [] = L.getD (sw p q i) []) : OwnM E EE ((w.setCell ⟨g, p, none⟩ uq).setCell ⟨g, q, none⟩ up) lo hi (.slice (some ⟨g, 0, none⟩) n cap) L' ((vs.set p uq).set q up) := by
  subst hn
  have h1 := h.row.stored p uq
  have h2 := h1.1.stored q up
  have hpl : p < vs.length := (List.getElem?_eq_some_iff.1 hp).1
  have hql : q < vs.length := (List.getElem?_eq_some_iff.1 hq).1
  have hvl := h.vlen
  have key : ∀ (i : Nat) (u : Value), ((vs.set p uq).set q up)[i]? = some u → i < L.length ∧ vs[sw p q i]? = some u := by
    intro i u hi'
    have hil : i < L.length := by have := (List.getElem?_eq_some_iff.1 hi').1; simp at this; omega
    refine ⟨hil, ?_⟩
    unfold sw
    rcases get_set hi' with ⟨rfl, rfl⟩ | ⟨hne, hi'⟩
    · by_cases e : i = p
      · subst e; rw [if_pos rfl]; exact hp
      · rw [if_neg e, if_pos rfl]; exact hp
    · rcases get_set hi' with ⟨rfl, rfl⟩ | ⟨hne2, hi'⟩
      · rw [if_pos rfl]; exact hq
      · rw [if_neg hne2, if_neg hne]; exact hi'
  have hsw : ∀ i j, sw p q i = sw p q j → i = j := by
    intro i j; unfold sw
    intro e
    split at e <;> split at e <;> (try split at e) <;> (try split at e) <;> omega
  have hkeep : ∀ (i : Nat) (u : Value) (r : List UInt8), vs[i]? = some u → OwnBytes E w lo hi u r → OwnBytes E ((w.setCell ⟨g, p, none⟩ uq).setCell ⟨g, q, none⟩ up) lo hi u r := by
    intro i u r hi' ho
    have hne : ∀ g', u.ownBlock = some g' → (some g : Option Nat) ≠ some g' := fun g' e e2 => (h.apart i u g' hi' e).1 (by simpa [Value.ownBlock] using e2)
    exact (ho.other h1.2 hne).other h2.2 hne
  refine ⟨by rw [hl]; exact h2.1, by simpa using h.top, h.out, ?_, ?_⟩
  · intro i u hi'
    obtain ⟨a1, a2⟩ := key i u hi'
    rw [hL i a1]
    exact hkeep _ u _ a2 (h.rows _ u a2)
  · intro i u g' hi' hg'
    obtain ⟨a1, a2⟩ := key i u hi'
    refine ⟨(h.apart _ u g' a2 hg').1, fun j u'' hj hg'' => ?_⟩
    obtain ⟨b1, b2⟩ := key j u'' hj
    exact hsw _ _ ((h.apart _ u g' a2 hg').2 _ u'' b2 hg'')

theorem own_isSlice {base n : Nat} {e : TypeId} {xs : List Value} (h : w.ownsRow base e 1 v n xs) : ∃ A n' c, v = .slice A n' c := by
  rcases h.2 with ⟨hh, _⟩ | ⟨g, cap, cur, hh, _⟩ <;> exact ⟨_, _, _, hh⟩
theorem cell_past {W w1 : World} {row : Option Nat} {B : Nat} (k : TurnIn 0 0 w W) (hg : W.grownBy w1 row) (hne : row ≠ some B) (hB : B < w.heap.size) (o : Nat) : w1.cell? ⟨B, o, none⟩ = w.cell? ⟨B, o, none⟩ := by
  have h1 : W.heap[B]? = w.heap[B]? := k.block B hB (by omega)
  have h2 : w1.heap[B]? = W.heap[B]? := hg.block B (by have := k.size; omega) (fun e => hne e.symm)
  exact World.cell?_of_block (h2.trans h1)
theorem frozen_past {W w1 : World} {row : Option Nat} {B : Nat} (k : TurnIn 0 0 w W) (hg : W.grownBy w1 row) (hne : row ≠ some B) (hB : B < w.heap.size) (o : Nat) : w1.frozen? ⟨B, o, none⟩ = w.frozen? ⟨B, o, none⟩ := by
  have h1 : W.heap[B]? = w.heap[B]? := k.block B hB (by omega)
  have h2 : w1.heap[B]? = W.heap[B]? := hg.block B (by have := k.size; omega) (fun e => hne e.symm)
  exact World.frozen?_of_block (h2.trans h1)
/-- a new row is appended -/
theorem OwnM.push {W w1 : World} {v' u : Value} {r : List UInt8} (h : OwnM E EE w lo hi v L vs) (k : TurnIn 0 0 w W) (hu : OwnBytes E W a b u r) (h1 : hi ≤ a) (h2 : lo ≤ a)
    (ho : w1.ownsRow lo EE 1 v' (L.length + 1) (vs ++ [u])) (hg : W.grownBy w1 v.ownBlock) (hv : v'.ownBlock = v.ownBlock ∨ v'.ownBlock = some W.heap.size) : OwnM E EE w1 lo w1.heap.size v' (L ++ [r]) (vs ++ [u]) := by
  have hW := h.keep k (by omega)
  have hvl := h.vlen
  have hs := hg.size
  have hub : ∀ g, u.ownBlock = some g → a ≤ g ∧ g < W.heap.size := fun g e => ⟨(hu.1.lt g e).1, (hu.1.lt g e).2⟩
  have hob : ∀ g, v.ownBlock = some g → g < hi := h.out
  have key : ∀ (i : Nat) (x : Value), (vs ++ [u])[i]? = some x → (i < L.length ∧ vs[i]? = some x) ∨ (i = L.length ∧ x = u) := by
    intro i x hi'
    rcases Nat.lt_or_ge i vs.length with hlt | hge
    · rw [List.getElem?_append_left hlt] at hi'; exact .inl ⟨by omega, hi'⟩
    · rw [List.getElem?_append_right hge] at hi'
      have hx := (List.getElem?_eq_some_iff.1 hi').1
      simp at hx
      have : i - vs.length = 0 := by omega
      rw [this] at hi'
      simp at hi'
      exact .inr ⟨by omega, hi'.symm⟩
  refine ⟨by simpa using ho, Nat.le_refl _, fun g e => (ho.lt g e).2, ?_, ?_⟩
  · intro i x hi'
    rcases key i x hi' with ⟨h3, h4⟩ | ⟨rfl, rfl⟩
    · have e : (L ++ [r]).getD i [] = L.getD i [] := by simp [List.getD, List.getElem?_append_left h3]
      rw [e]
      exact ((hW.rows i x h4).other hg (fun g e1 e2 => (hW.apart i x g h4 e1).1 e2)).wider (Nat.le_refl _) (by have := hW.top; omega) (Nat.le_refl _)
    · have e : (L ++ [r]).getD L.length [] = r := by simp [List.getD]
      rw [e]
      exact (hu.other hg (fun g e1 e2 => by have := hub g e1; have := hob g e2; omega)).wider h2 (by have := hu.2.1; omega) (Nat.le_refl _)
  · intro i x g hi' hgx
    have hlt : g < W.heap.size := by
      rcases key i x hi' with ⟨_, h4⟩ | ⟨_, rfl⟩
      · exact ((hW.rows i x h4).1.lt g hgx).2
      · exact (hub g hgx).2
    have hne : v.ownBlock ≠ some g := by
      rcases key i x hi' with ⟨_, h4⟩ | ⟨_, rfl⟩
      · exact (hW.apart i x g h4 hgx).1
      · intro e; have := hub g hgx; have := hob g e; omega
    refine ⟨?_, ?_⟩
    · rcases hv with e | e <;> rw [e]
      · exact hne
      · simp; omega
    · intro j y hj hgy
      rcases key i x hi' with ⟨a1, a2⟩ | ⟨a1, a2⟩ <;> rcases key j y hj with ⟨b1, b2⟩ | ⟨b1, b2⟩
      · exact (hW.apart i x g a2 hgx).2 j y b2 hgy
      · subst b2; have := hub g hgy; have := (hW.rows i x a2).2.2 g hgx; omega
      · subst a2; have := hub g hgx; have := (hW.rows j y b2).2.2 g hgy; omega
      · omega

/-- read, and lying in blocks from lo to hi -/
structure LieM (w : World) (lo hi : Nat) (v : Value) (L : Mat) : Prop where
  top : hi ≤ w.heap.size
  ex : ∃ vs : List Value, vs.length = L.length ∧ (Seen w v vs ∧ ∀ g, v.ownBlock = some g → lo ≤ g ∧ g < hi) ∧ ∀ i u, vs[i]? = some u → Seen w u (bys (L.getD i [])) ∧ ∀ g, u.ownBlock = some g → lo ≤ g ∧ g < hi
theorem seen_turn {xs : List Value} (h : Seen w v xs) (h2 : ∀ g, v.ownBlock = some g → lo ≤ g ∧ g < hi) (t : TurnIn a b w w') (d : hi ≤ a ∨ b ≤ lo) : Seen w' v xs := by
  obtain ⟨A, c, rfl, h3, h4, h5⟩ := h
  refine ⟨A, c, rfl, h3, h4, fun hn => ?_⟩
  obtain ⟨bb, off, rfl, hb, hc⟩ := h5 hn
  have := h2 bb rfl
  have hs := t.size
  exact ⟨bb, off, rfl, by omega, fun i u hu => (World.cell?_of_block (t.block bb hb (by omega))).trans (hc i u hu)⟩
theorem LieM.keep (h : LieM w lo hi v L) (t : TurnIn a b w w') (d : hi ≤ a ∨ b ≤ lo) : LieM w' lo hi v L := by
  obtain ⟨h1, vs, h2, h3, h4⟩ := h
  exact ⟨Nat.le_trans h1 t.size, vs, h2, ⟨seen_turn h3.1 h3.2 t d, h3.2⟩, fun i u hu => ⟨seen_turn (h4 i u hu).1 (h4 i u hu).2 t d, (h4 i u hu).2⟩⟩
theorem LieM.seen (h : LieM w lo hi v L) : SeenM w v L := by
  obtain ⟨h1, vs, h2, h3, h4⟩ := h
  exact ⟨vs, h2, h3.1, fun i u hu => (h4 i u hu).1⟩
theorem OwnM.lie (h : OwnM E EE w lo hi v L vs) : LieM w lo hi v L :=
  ⟨h.top, vs, h.vlen, ⟨Seen.of_own h.row, fun g e => ⟨(h.row.lt g e).1, h.out g e⟩⟩, fun i u hu => ⟨(h.rows i u hu).seen, fun g e => ⟨((h.rows i u hu).1.lt g e).1, (h.rows i u hu).2.2 g e⟩⟩⟩
end

/-- new rows are returned -/
def RetM (E EE : TypeId) (w : World) (L : Mat) (e : Ending) (w' : World) : Prop := ∃ v vs, e = .returned v ∧ OwnM E EE w' w.heap.size w'.heap.size v L vs ∧ TurnIn 0 0 w w'
/-- a struct with new rows -/
def RetMat (E EE : TypeId) (w : World) (L : Mat) (e : Ending) (w' : World) : Prop := ∃ v vs, e = .returned (.agg #[v]) ∧ OwnM E EE w' w.heap.size w'.heap.size v L vs ∧ TurnIn 0 0 w w'
def RetMatOk (E EE : TypeId) (w : World) (L : Mat) (ok : Bool) (e : Ending) (w' : World) : Prop := ∃ v vs, e = .returned (.tuple #[.agg #[v], .bool ok]) ∧ OwnM E EE w' w.heap.size w'.heap.size v L vs ∧ TurnIn 0 0 w w'
/-- a struct with rows that lie in new blocks -/
def RetLie (w : World) (L : Mat) (e : Ending) (w' : World) : Prop := ∃ v, e = .returned (.agg #[v]) ∧ LieM w' w.heap.size w'.heap.size v L ∧ TurnIn 0 0 w w'
def RetLieOk (w : World) (L : Mat) (ok : Bool) (e : Ending) (w' : World) : Prop := ∃ v, e = .returned (.tuple #[.agg #[v], .bool ok]) ∧ LieM w' w.heap.size w'.heap.size v L ∧ TurnIn 0 0 w w'
def RetIntOk (w : World) (n : Int) (ok : Bool) (e : Ending) (w' : World) : Prop := e = .returned (.tuple #[.int .i64 n, .bool ok]) ∧ TurnIn 0 0 w w'

theorem turn_of_below {w w1 w' : World} (hb : Below w.heap.size w w1) (t : TurnIn 0 0 w1 w') : TurnIn 0 0 w w' := TurnIn.of_below (t.base hb hb.size (by omega))
theorem RetM.base {E EE : TypeId} {w w1 w' : World} {L : Mat} {e : Ending} (h : RetM E EE w1 L e w') (hb : Below w.heap.size w w1) : RetM E EE w L e w' := by
  obtain ⟨v, vs, he, h1, h2⟩ := h
  exact ⟨v, vs, he, h1.wider hb.size (Nat.le_refl _) (Nat.le_refl _), turn_of_below hb h2⟩
/-- entry i, j of a matrix that is given by its entries -/
theorem SeenM.cellF {w : World} {v : Value} {r c : Nat} {F : Ents} (h : SeenM w v (mkM r c F)) (i j : Nat) (hi : i < r) (hj : j < c) : ∃ bb off cp b' off' c', v = .slice (some ⟨bb, off, none⟩) r cp ∧ r ≤ maxLen ∧ bb < w.heap.size ∧ b' < w.heap.size ∧
    w.cell? ⟨bb, off + i, none⟩ = some (.slice (some ⟨b', off', none⟩) c c') ∧ c ≤ maxLen ∧ w.cell? ⟨b', off' + j, none⟩ = some (.int .u8 ((F i j).toNat : Int)) := by
  obtain ⟨bb, off, cp, b', off', c', h1, h2, h3, h4, h5, h6, h7⟩ := h.cell i j (by simpa using hi) (by rw [mkM_getD _ _ _ _ hi]; simpa using hj)
  rw [mkM_length] at h1 h2
  rw [mkM_getD _ _ _ _ hi, mkRow_length] at h5 h6
  rw [ent_mkM _ _ _ _ _ hi hj] at h7
  exact ⟨bb, off, cp, b', off', c', h1, h2, h3, h4, h5, h6, h7⟩
theorem SeenM.rowF {w : World} {v : Value} {r c : Nat} {F : Ents} (h : SeenM w v (mkM r c F)) (i : Nat) (hi : i < r) : ∃ bb off cp A c', v = .slice (some ⟨bb, off, none⟩) r cp ∧ r ≤ maxLen ∧ bb < w.heap.size ∧
    w.cell? ⟨bb, off + i, none⟩ = some (.slice A c c') ∧ c ≤ maxLen ∧ Seen w (.slice A c c') (bys (mkRow c (F i))) := by
  obtain ⟨bb, off, cp, u, h1, h2, h3, h4, h5, h6⟩ := h.row i (by simpa using hi)
  rw [mkM_length] at h1 h2
  rw [mkM_getD _ _ _ _ hi] at h6
  have h6' := h6
  obtain ⟨A, c', h7, h8, h9, _⟩ := h6
  simp only [bys_length, mkRow_length] at h7 h8
  rw [h7] at h5 h6'
  exact ⟨bb, off, cp, A, c', h1, by omega, h4, h5, by omega, h6'⟩

/-- marks of rows -/
def marksM : Nat → Mat → Mat
  | _, [] => []
  | k, r :: L => marks k r.length :: marksM (k + r.length) L
def sizM : Mat → Nat
  | [] => 0
  | r :: L => r.length + sizM L
theorem marksM_length (L : Mat) : ∀ k, (marksM k L).length = L.length := by
  induction L with
  | nil => intro k; rfl
  | cons r L ih => intro k; simp [marksM, ih]
theorem sizM_take_succ (L : Mat) (i : Nat) (hi : i < L.length) : sizM (L.take (i + 1)) = sizM (L.take i) + (L.getD i []).length := by
  induction L generalizing i with
  | nil => simp at hi
  | cons r L ih =>
    cases i with
    | zero => simp [sizM]
    | succ i =>
      have := ih i (by simpa using hi)
      simp only [List.take_succ_cons, sizM, List.getD_cons_succ] at this ⊢
      omega
theorem sizM_take_le (L : Mat) (i : Nat) : sizM (L.take i) ≤ sizM L := by
  induction L generalizing i with
  | nil => simp
  | cons r L ih =>
    cases i with
    | zero => simp [sizM]
    | succ i => have := ih i; simp only [List.take_succ_cons, sizM]; omega
theorem marksM_getD (L : Mat) : ∀ (k i : Nat), i < L.length → (marksM k L).getD i [] = marks (k + sizM (L.take i)) (L.getD i []).length := by
  induction L with
  | nil => intro k i h; simp at h
  | cons r L ih =>
    intro k i h
    cases i with
    | zero => simp [marksM, sizM]
    | succ i =>
      have := ih (k + r.length) i (by simpa using h)
      simp only [marksM, List.getD_cons_succ, List.take_succ_cons, sizM, this]
      rw [Nat.add_assoc]
theorem sizM_le_mul (L : Mat) (c : Nat) (h : ∀ i, i < L.length → (L.getD i []).length ≤ c) : sizM L ≤ L.length * c := by
  induction L with
  | nil => simp [sizM]
  | cons r L ih =>
    have h0 := h 0 (by simp)
    have h1 := ih (fun i hi => by have := h (i + 1) (by simpa using hi); simpa using this)
    simp only [sizM, List.length_cons, Nat.add_mul, Nat.one_mul]
    simp at h0
    omega
end G294
