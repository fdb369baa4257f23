/- Joined texts: Poly1, Poly2, ArrMem, Arr1, Arr2, Arr3, GoodShr. -/
import Derived.Test.YtgbhcjfnkjhkiaaDoorBd04
import Derived.Test.YtgbhcjfnkjhkiaaDoorBd03
import Derived.Test.YtgbhcjfnkjhkiaaDoorBd02
import Derived.Laws.Rows
import Derived.Laws.Tables
import Derived.Laws.CopyOwn
import Derived.Stop.BytesEq
import Derived.Deep.RegionLaw
import Derived.StillTailTactics
import Derived.Deep.RegionHeld3
import Derived.BigQuiet
set_option linter.unusedSimpArgs false
set_option linter.unusedVariables false
/- The value of a polynomial: the model's and the program's, which ranges over slices.Backward. -/
namespace G294
open Go Go.RowKit
/-- what slices.Backward yields -/
def revL (l : List UInt8) : List (Nat × UInt8) := (List.range l.length).map fun i => (l.length - 1 - i, l.getD (l.length - 1 - i) 0)
@[simp] theorem revL_length (l : List UInt8) : (revL l).length = l.length := by simp [revL]
theorem revL_take (l : List UInt8) (k : Nat) (h : k < l.length) : (revL l).take (k + 1) = (revL l).take k ++ [(l.length - 1 - k, l.getD (l.length - 1 - k) 0)] := by
  rw [List.take_succ_eq_append_getElem (by simpa using h)]; simp [revL]
theorem revL_next (l : List UInt8) (k j : Nat) (hj : l.length - k = j + 1) (hkl : j < l.length) : (revL l).take k ++ [(j, l[j])] = (revL l).take (k + 1) := by
  rw [revL_take l k (by omega), show l.length - 1 - k = j by omega]
  simp [List.getD, hkl]
def hacc (x : UInt8) (pre : List (Nat × UInt8)) : UInt8 := pre.foldl (fun a c => gmul a x ^^^ c.2) 0
theorem hacc_snoc (x : UInt8) (pre : List (Nat × UInt8)) (c : Nat × UInt8) : hacc x (pre ++ [c]) = gmul (hacc x pre) x ^^^ c.2 := by simp [hacc]
theorem hacc_take (x : UInt8) (l : List UInt8) : ∀ k, k ≤ l.length → hacc x ((revL l).take k) = hor x (l.drop (l.length - k)) := by
  intro k
  induction k with
  | zero => intro _; simp [hacc, hor]
  | succ k ih =>
    intro h
    rw [revL_take l k (by omega), hacc_snoc, ih (by omega), hor_drop x l (l.length - (k + 1)) (by omega), show l.length - (k + 1) + 1 = l.length - k by omega]
    show _ ^^^ l.getD (l.length - 1 - k) 0 = _
    have e : l.length - 1 - k = l.length - (k + 1) := by omega
    rw [e]
    simp [List.getD, show l.length - (k + 1) < l.length by omega]
theorem hacc_rev (x : UInt8) (l : List UInt8) : hacc x (revL l) = hor x l := by
  have := hacc_take x l l.length (Nat.le_refl _)
  rwa [List.take_of_length_le (by simp), Nat.sub_self, List.drop_zero] at this
def bkV (x : Nat × UInt8) : Array Value := #[.int .i64 (x.1 : Int), .int .u8 (x.2.toNat : Int)]
end G294
namespace Go.Proofs.YtgbhcjfnkjhkiaaDoor
open Go.RowKit Go.Shelf G294

attribute [local go_sem] Oper.semAt_some

set_option maxHeartbeats 1000000 in
theorem l7At_own (v : Value) (l : List UInt8) (x : UInt8) (w : World) (hv : Seen w v (bys l)) :
    Calls Tryd.prog 115 #[v, .int .u8 (x.toNat : Int)] w (RetByte w (hor x l)) := by
  obtain ⟨A, c, rfl, hlc, hcm, hx⟩ := hv
  rw [bys_length] at hlc hx
  simp only [bys_length]
  unfold maxLen at hcm
  generalize hnn : l.length = n at *
  have HN := Lib.hid hnn
  have HE : Hid (hor x (l.drop n) = 0) := by show _ = _; rw [List.drop_of_length_le (by omega)]; rfl
  have HE0 : Hid (hor x (l.drop 0) = hor x l) := rfl
  clear hnn
  go_enter Tryd.func115, Tryd.ntmps115
  go_wp2_with fail
  go_loopw [5, 6] (fun o i wr => ∃ k : Nat, k ≤ n ∧ i = .int .i64 ((k : Int) - 1) ∧ o = .int .u8 ((hor x (l.drop k)).toNat : Int) ∧ Below w.heap.size w wr)
    (fun _ i _ => (intOf i + 1).toNat)
  case atStart => exact ⟨n, Nat.le_refl _, rfl, by rw [HE.out]; rfl, Below.refl _ _⟩
  case round =>
    obtain ⟨k, hk, rfl, rfl, hb⟩ := hrel
    by_cases hlt : 0 < k
    · obtain ⟨j, rfl⟩ : ∃ j, k = j + 1 := ⟨k - 1, by omega⟩
      rw [show ((j + 1 : Nat) : Int) - 1 = (j : Int) by omega]
      obtain ⟨b, off, rfl, hbl, hcell⟩ := hx (by omega)
      have hkl : j < l.length := by rw [HN.out]; omega
      have hcx : wr.cell? ⟨b, off + j, none⟩ = some (.int .u8 ((l[j]).toNat : Int)) := (hb.cell (p := ⟨b, off + j, none⟩) hbl).trans (hcell j _ (bys_get l j hkl))
      have HX := Lib.hid (xor_u8 (gmul (hor x (l.drop (j + 1))) x) l[j])
      have HS := Lib.hid (hor_drop x l j hkl)
      clear hcell hx
      have hki : (j : Int) < (n : Int) := by omega
      have hj0 : (0 : Int) ≤ (j : Int) := by omega
      go_wp2_with fail
      go_quiet ((go_at_call 125; exact quietly (l1Times_u8 _ _ _)))
      go_wp2_with fail
      go_roundw
      case rel => exact ⟨j, by omega, by go_num, by rw [HX.out, HS.out], below_drewN hb _⟩
      case measure => simp [intOf]
    · obtain rfl : k = 0 := by omega
      have hki : ¬ (0 : Int) ≤ ((0 : Nat) : Int) - 1 := by omega
      go_wp2_with fail
      go_ret
      exact ⟨rfl, TurnIn.of_below hb⟩

set_option maxHeartbeats 400000 in
theorem sPolyAt_own (v : Value) (l : List UInt8) (x : UInt8) (w : World) (hv : Seen w v (bys l)) :
    Calls Tryd.prog 45 #[v, .int .u8 (x.toNat : Int)] w (RetByteOk w (polR l x) (polOk l)) := by
  have hv0 := hv
  obtain ⟨A, c, rfl, hlc, hcm, hx⟩ := hv
  rw [bys_length] at hlc hv0
  simp only [bys_length]
  unfold maxLen at hcm
  clear hx
  by_cases hle : l.length ≤ 20
  · have hd : decide (20 < (l.length : Int)) = false := by simp; omega
    have HR : Hid (polR l x = hor x l) := if_pos hle
    have HO : Hid (polOk l = true) := by show polOk l = true; simpa [polOk] using hle
    go_enter Tryd.func45, Tryd.ntmps45
    go_wp2_with fail
    refine (l7At_own _ l x _ hv0).mono ?_
    rintro e w' ⟨rfl, k⟩
    go_wp2_with fail
    go_ret2
    exact ⟨by rw [HR.out, HO.out]; rfl, k⟩
  · have hd : decide (20 < (l.length : Int)) = true := by simp; omega
    have HR : Hid (polR l x = 0) := if_neg hle
    have HO : Hid (polOk l = false) := by show polOk l = false; simpa [polOk] using hle
    go_enter Tryd.func45, Tryd.ntmps45
    go_wp2_with fail
    go_ret2
    exact ⟨by rw [HR.out, HO.out]; rfl, TurnIn.refl _⟩

set_option maxRecDepth 100000 in
set_option maxHeartbeats 1000000 in
/-- slices.Backward boxes its argument and hands back the function -/
theorem backward_any (At : Option Addr) (nt ct : Nat) (w : World) : Calls Tryd.prog 145 #[.slice At nt ct] w fun e w' => e = .returned (.func (.func 160) #[] #[.pointer (some ⟨w.heap.size, 0, none⟩)]) ∧
    w' = w.alloc (.cells #[.slice At nt ct] 22) := by
  go_enter Tryd.func145, Tryd.ntmps145
  go_wp2_with fail
  go_ret
  exact ⟨rfl, rfl⟩

set_option maxRecDepth 100000 in
set_option maxHeartbeats 4000000 in
theorem backward_stops (nF Bs : Nat) (l : List UInt8) (v : Value) (w : World) (Kp : World → World → Prop) (Inv : World → Prop) (hl : l.length ≤ 1000)
    (hInv : ∀ W, Inv W → W.cell? ⟨Bs, 0, none⟩ = some v ∧ Seen W v (bys l))
    (hKp : ∀ W W', Inv W → Kp W W' → Inv W') (hBel : ∀ W W', Inv W → Below W.heap.size W W' → Inv W') (hw : ∀ W, Below w.heap.size w W → Inv W) (hnF : 1 ≤ nF) :
    SeqStopsK Fence.wide nF Tryd.prog 160 #[.pointer (some ⟨Bs, 0, none⟩)] bkV Kp (fun xs => xs = revL l) (fun pre => pre <+: revL l) l.length w := by
  intro lp J Jx W hW hJ hJx hY h0
  have hiv := hw W hW
  obtain ⟨cb, sv⟩ := hInv W hiv
  obtain ⟨A, cp, rfl, hlc, hcm, _⟩ := sv
  rw [bys_length] at hlc
  simp only [bys_length] at *
  unfold maxLen at hcm
  generalize hn : l.length = n at *
  have HN := Lib.hid hn
  have HINV := Lib.hid hInv
  have HKP := Lib.hid hKp
  have HBEL := Lib.hid hBel
  have HY := Lib.hid hY
  clear hInv hKp hBel hY hw hn
  refine callsIn_of_wp Tryd.func160 rfl trivial ?_ rfl
  simp only [Tryd.ntmps160, List.size_toArray, List.length_cons, List.length_nil, Nat.reduceAdd, Nat.reduceSub, Array.replicate_succ, Array.replicate_zero, List.push_toArray, List.append_toArray, List.nil_append, List.cons_append]
  gi_wp2_with fail
  gi_loopw [3] (fun i wr => ∃ k : Nat, k ≤ n ∧ i = .int .i64 (((n - k : Nat) : Int) - 1) ∧ Inv wr ∧ J ((revL l).take k) wr) (fun i _ => (intOf i + 1).toNat)
  case atStart => exact ⟨0, Nat.zero_le _, by simp, hiv, h0⟩
  case round =>
    obtain ⟨k, hk, rfl, hi, hj⟩ := hrel
    clear hiv h0 cb
    by_cases hlt : k < n
    · obtain ⟨j, hj0⟩ : ∃ j, n - k = j + 1 := ⟨n - k - 1, by omega⟩
      rw [hj0, show ((j + 1 : Nat) : Int) - 1 = (j : Int) by omega]
      obtain ⟨cb, sv⟩ := HINV.out _ hi
      obtain ⟨A1, c1, hvv, _, _, hx⟩ := sv
      rw [bys_length, HN.out] at hx hvv
      simp only [Value.slice.injEq] at hvv
      obtain ⟨rfl, _, rfl⟩ := hvv
      obtain ⟨b, off, rfl, hbl, hcell⟩ := hx (by omega)
      have hkl : j < l.length := by rw [HN.out]; omega
      have hcx := hcell j _ (bys_get l j hkl)
      have hki : (j : Int) < (n : Int) := by omega
      have hji : (0 : Int) ≤ (j : Int) := by omega
      obtain ⟨fn, tmps, assign, body, hy, hR⟩ := HY.out _ (j, l[j]) wr hj (by rw [List.length_take, revL_length, HN.out]; omega)
      have HR := Lib.hid hR
      have hpre : (revL l).take k ++ [(j, l[j])] = (revL l).take (k + 1) := revL_next l k j (by rw [HN.out]; exact hj0) hkl
      have HPRE := Lib.hid hpre
      have HJ0 := Lib.hid hj0
      simp only [bkV] at hy
      clear hR hpre hcell hx hj0
      gi_wp2_with fail
      refine HR.out.mono ?_
      rintro e W3 (⟨rfl, hJ3, hk3⟩ | ⟨rfl, hJx3⟩)
      · have hi3 := HKP.out _ _ hi hk3
        rw [HPRE.out] at hJ3
        gi_wp2_with fail
        go_roundw
        case rel => exact ⟨k + 1, by omega, by have := HJ0.out; rw [show n - (k + 1) = j by omega], hi3, hJ3⟩
        case measure => simp [intOf]
      · gi_wp2_with fail
        refine bodyPost_ret (results_none rfl _ _ _) rfl ?_
        exact ⟨⟨_, rfl⟩, .inr ⟨_, by rw [HPRE.out]; exact List.take_prefix _ _, hJx3⟩⟩
    · obtain rfl : k = n := by omega
      have hki : ¬ (0 : Int) ≤ ((k - k : Nat) : Int) - 1 := by omega
      gi_wp2_with fail
      go_end0
      exact ⟨⟨_, rfl⟩, .inl (by rw [List.take_of_length_le (by simp [HN.out])] at hj; exact hj)⟩

end Go.Proofs.YtgbhcjfnkjhkiaaDoor

/- valueAt and PolyAt: the program's. -/
namespace Go.Proofs.YtgbhcjfnkjhkiaaDoor
open Go.RowKit Go.Shelf G294

attribute [local go_sem] Oper.semAt_some

set_option maxRecDepth 100000 in
set_option maxHeartbeats 4000000 in
theorem valueAt_own (v : Value) (l : List UInt8) (x : UInt8) (w : World) (hv : Seen w v (bys l)) (hl : l.length ≤ 1000) (ht : Tab w) (h0 : 0 < w.heap.size) :
    Calls Tryd.prog 114 #[v, .int .u8 (x.toNat : Int)] w (RetByte w (hor x l)) := by
  have HV := Lib.hid hv
  obtain ⟨A, cp, hvv⟩ := hv.len
  rw [bys_length] at hvv
  subst hvv
  have HT := Lib.hid ht
  have HH := Lib.hid (hacc_rev x l)
  clear ht hv
  have a1 := turn_alloc w (.cells #[.int .u8 (x.toNat : Int)] 5)
  have z1 := World.size_alloc w (.cells #[.int .u8 (x.toNat : Int)] 5)
  have bX0 := Boxed.new w 5 (.int .u8 (x.toNat : Int))
  refine (callsIn_wide (n := 5)).1 ?_
  refine callsIn_of_wp_marks Tryd.func114 rfl trivial ?_ rfl
  simp only [Tryd.ntmps114, List.size_toArray, List.length_cons, List.length_nil, Nat.reduceAdd, Nat.reduceSub, Array.replicate_succ, Array.replicate_zero, List.push_toArray, List.append_toArray, List.nil_append, List.cons_append]
  gi_wp2_with fail
  refine ⟨trivial, ?_⟩
  refine (callsIn_wide.2 (backward_any _ _ _ _)).mono ?_
  rintro e w' ⟨rfl, rfl⟩
  gi_wp2_with fail
  generalize hBe : w.heap.size = B at *
  obtain ⟨W0, hW0⟩ : ∃ W0, W0 = (((w.alloc (.cells #[.int .u8 (x.toNat : Int)] 5)).alloc (.cells #[.int .u8 0] 5)).alloc (.cells #[.slice A l.length cp] 22)) := ⟨_, rfl⟩
  have bX : Boxed W0 B 5 (.int .u8 (x.toNat : Int)) := by rw [hW0]; exact (bX0.alloc _).alloc _
  have bV : Boxed W0 (B + 1) 5 (.int .u8 ((hacc x []).toNat : Int)) := by
    have := (Boxed.new (w.alloc (.cells #[.int .u8 (x.toNat : Int)] 5)) 5 (.int .u8 0)).alloc (.cells #[.slice A l.length cp] 22)
    rw [z1] at this; rw [hW0]; exact this
  have bS : Boxed W0 (B + 1 + 1) 22 (.slice A l.length cp) := by
    have := Boxed.new ((w.alloc (.cells #[.int .u8 (x.toNat : Int)] 5)).alloc (.cells #[.int .u8 0] 5)) 22 (.slice A l.length cp)
    rw [World.size_alloc, z1] at this; rw [hW0]; exact this
  have hsz : W0.heap.size = B + 3 := by rw [hW0]; simp [hBe]
  have k0 : TurnIn 0 0 w W0 := by
    rw [hW0]; exact turn_trans (turn_trans (turn_alloc _ _) (turn_alloc _ _) (by omega)) (turn_alloc _ _) (by omega)
  have hB0 : Below B w W0 := hBe ▸ k0.to_below
  rw [← hW0]
  have HINV : Hid (∀ W W', KeepBut (B + 3) (B + 1) W0 W → (KeepBut (B + 3) (B + 1) W W' ∨ Below W.heap.size W W') → KeepBut (B + 3) (B + 1) W0 W') := fun W W' h h' => by
    rcases h' with h' | h'
    · exact h.trans h'
    · exact h.trans (KeepBut.of_below (h'.mono (by have := h.size; omega)))
  have HB0 := Lib.hid hB0
  have HBE := Lib.hid hBe
  have HTB : Hid (∀ W, Below B w W → Tab W) := fun W h => HT.out.below (HBE.out.symm ▸ h) (by rw [HBE.out]; exact h0)
  clear hW0 k0 a1 z1 bX0 hBe
  refine wpIn_rangeFunc_ownH rfl (by omega) (gf := 160) (lb := #[.pointer (some ⟨B + 1 + 1, 0, none⟩)]) rfl trivial (enters_of Tryd.func160 (by kernel_rfl) rfl)
    (backward_stops _ (B + 1 + 1) l (.slice A l.length cp) W0 (KeepBut (B + 3) (B + 1)) (KeepBut (B + 3) (B + 1) W0) hl
      (fun W hW => ⟨(hW.cell (by omega) (by omega)).trans bS.cell, HV.out.below (HBE.out.symm ▸ hW.below HB0.out (by omega) (by omega))⟩)
      (fun W W' h h' => HINV.out W W' h (.inl h')) (fun W W' h h' => HINV.out W W' h (.inr h')) (fun W h => KeepBut.of_below (h.mono (by omega))) (by omega))
    (fun h h' => h.trans h') (KeepBut.putObj (by omega)) (Below.refl _ _) (fun _ => rfl)
    (fun pre W => Boxed W (B + 1) 5 (.int .u8 ((hacc x pre).toNat : Int)) ∧ Boxed W B 5 (.int .u8 (x.toNat : Int)) ∧ Below B w W ∧ B + 3 ≤ W.heap.size)
    (fun _ _ _ => False)
    (OwnFrom.and (Own.from (boxed_own (B + 1) 5 (fun pre : List (Nat × UInt8) => .int .u8 ((hacc x pre).toNat : Int))) _) (OwnFrom.and (Own.from (boxed_own B 5 (fun pre : List (Nat × UInt8) => .int .u8 (x.toNat : Int))) _) (OwnFrom.and (ownFrom_below (by have := HBE.out; omega) (by omega)) (fun s X Y row hs hg hr => Nat.le_trans hs hg.size))))
    (fun _ _ _ _ _ hs _ _ => hs)
    ⟨bV, bX, HB0.out, by omega⟩
    (fun c a' W => a' = { tmps := #[.slice A l.length cp, .int .u8 (x.toNat : Int), undef, .pointer (some ⟨B, 0, none⟩), .int .u8 0, .pointer (some ⟨B + 1, 0, none⟩), undef, .int .u8 (c.2.toNat : Int),
      .slice A l.length cp, .func (.func 160) #[] #[.pointer (some ⟨B + 1 + 1, 0, none⟩)], .int .i64 (c.1 : Int), .int .u8 (c.2.toNat : Int), undef, undef, undef, undef, undef, undef], defers := [] })
    (fun x a' _ X Y row hs hg hr => hs)
    ?assign ?body ?done ?stop
  case assign =>
    rintro lp pre c W K ⟨hv, hx, hBw, hn0⟩ hK
    simp only [bkV]
    gi_wp2_with fail
    exact hK _ _ ((KeepsOthers.refl _).from _) (KeepBut.refl _ _ _) ⟨hv, hx, hBw, hn0⟩ rfl
  case body =>
    rintro lp pre c a' W hlp ⟨rr, hr⟩ ⟨hv, hx, hBw, hn0⟩ rfl hlt
    obtain ⟨ix, cc⟩ := c
    have hcv := hv.cell
    have hcx := hx.cell
    have hfv := hv.frozen
    have hset := hv.set (.int .u8 ((hacc x (pre ++ [(ix, cc)])).toNat : Int))
    have hx2 : Boxed (W.setCell ⟨B + 1, 0, none⟩ (.int .u8 ((hacc x (pre ++ [(ix, cc)])).toNat : Int))) B 5 (.int .u8 (x.toNat : Int)) := hx.kept (grownBy_setCell' W (B + 1) _) (by simp)
    have hk2 := KeepsOthers.setCell W ⟨B + 1, 0, none⟩ (.int .u8 ((hacc x (pre ++ [(ix, cc)])).toNat : Int))
    have hb2 : KeepBut (B + 3) (B + 1) W (W.setCell ⟨B + 1, 0, none⟩ (.int .u8 ((hacc x (pre ++ [(ix, cc)])).toNat : Int))) := by
      have hg := grownBy_setCell' W (B + 1) (.int .u8 ((hacc x (pre ++ [(ix, cc)])).toNat : Int))
      exact ⟨hg.os, hg.tape, hg.output, hg.size, fun k hk hne => hg.block k (by omega) (fun e => hne (by cases e; rfl))⟩
    have hB2 := hb2.below hBw (by omega) (by omega)
    have HX := Lib.hid (xor_u8 (gmul (hacc x pre) x) cc)
    have HS := Lib.hid (hacc_snoc x pre (ix, cc))
    have HTW := Lib.hid (HTB.out W hBw)
    rw [HS.out, ← HX.out] at hset hx2 hk2 hb2 hB2
    have HSET := Lib.hid hset
    have HX2 := Lib.hid hx2
    have HK2 := Lib.hid hk2
    have HKB := Lib.hid hb2
    have HBB := Lib.hid hB2
    clear hset hx2 hk2 hb2 hB2
    simp only
    gi_wp2_with fail
    refine ⟨trivial, ?_⟩
    refine (callsIn_wide.2 (times_u8 _ _ _ HTW.out)).mono ?_
    rintro e w' ⟨rfl, rfl⟩
    gi_wp2_with fail
    exact ⟨HK2.out.from _, HKB.out, by rw [HS.out, ← HX.out]; exact HSET.out, HX2.out, HBB.out, by simp; omega⟩
  case done =>
    rintro D ys W hD rfl ⟨hv, hx, hBw, hn0⟩ hK
    have hc := hv.cell
    rw [HH.out] at hc
    gi_wp2_with fail
    refine ⟨by simp, .inl ⟨_, _, rfl, run_takeDeferred hK, ?_⟩⟩
    have hBe := (HBE.out ▸ hBw : Below w.heap.size w W).trans (belowK_b (w := w) (Nat.le_refl _) W D _ (.deferred none) (by have := HBE.out; omega) hK rfl rfl)
    exact ⟨_, results_tmp rfl _ _ _, rfl, TurnIn.of_below hBe⟩
  case stop =>
    rintro D c pre W _ _ h _
    exact h.elim

set_option maxHeartbeats 400000 in
theorem polyAt_own (v : Value) (l : List UInt8) (x : UInt8) (w : World) (hv : Seen w v (bys l)) (ht : Tab w) (h0 : 0 < w.heap.size) :
    Calls Tryd.prog 44 #[v, .int .u8 (x.toNat : Int)] w (RetByteOk w (polR l x) (polOk l)) := by
  have hv0 := hv
  obtain ⟨A, c, rfl, hlc, hcm, hx⟩ := hv
  rw [bys_length] at hlc hv0
  simp only [bys_length]
  unfold maxLen at hcm
  clear hx
  by_cases hle : l.length ≤ 20
  · have hd : decide (20 < (l.length : Int)) = false := by simp; omega
    have HR : Hid (polR l x = hor x l) := if_pos hle
    have HO : Hid (polOk l = true) := by show polOk l = true; simpa [polOk] using hle
    go_enter Tryd.func44, Tryd.ntmps44
    go_wp2_with fail
    refine (valueAt_own _ l x _ hv0 (by omega) ht h0).mono ?_
    rintro e w' ⟨rfl, k⟩
    go_wp2_with fail
    go_ret2
    exact ⟨by rw [HR.out, HO.out]; rfl, k⟩
  · have hd : decide (20 < (l.length : Int)) = true := by simp; omega
    have HR : Hid (polR l x = 0) := if_neg hle
    have HO : Hid (polOk l = false) := by show polOk l = false; simpa [polOk] using hle
    go_enter Tryd.func44, Tryd.ntmps44
    go_wp2_with fail
    go_ret2
    exact ⟨by rw [HR.out, HO.out]; rfl, TurnIn.refl _⟩

end Go.Proofs.YtgbhcjfnkjhkiaaDoor

/- Arrays of bytes as variables: whole loads, stores, copies, comparisons. -/
namespace G294
open Go Go.RowKit
/-- block B is an array variable that holds the bytes l -/
def ArrAt (W : World) (B : Nat) (T : TypeId) (l : List UInt8) : Prop := W.heap[B]? = some (.cells (bys l).toArray T (0, 0))
def aggL (l : List UInt8) : Value := .agg (bys l).toArray
section
variable {P : Program} {w w' : World} {B T a b : Nat} {l m : List UInt8}
theorem ArrAt.lt (h : ArrAt w B T l) : B < w.heap.size := (Array.getElem?_eq_some_iff.1 h).1
theorem ArrAt.new (w : World) (T : TypeId) (l : List UInt8) : ArrAt (w.alloc (.cells (bys l).toArray T)) w.heap.size T l := heap_alloc_new w _
theorem ArrAt.keep (h : ArrAt w B T l) (t : TurnIn a b w w') (d : B < a ∨ b ≤ B) : ArrAt w' B T l := (t.block B h.lt d).trans h
theorem ArrAt.cell (h : ArrAt w B T l) (k : Nat) (hk : k < l.length) : w.cell? ⟨B, k, none⟩ = some (.int .u8 (l[k].toNat : Int)) := by
  rw [cell_of_row w B k _ T _ h, List.getElem?_toArray, bys_get l k hk]
theorem ArrAt.cellAt (h : ArrAt w B T l) {k : Nat} {x : UInt8} (hk : l[k]? = some x) : w.cell? ⟨B, k, none⟩ = some (.int .u8 (x.toNat : Int)) := by
  obtain ⟨hl, rfl⟩ := List.getElem?_eq_some_iff.1 hk
  exact h.cell k hl
theorem ArrAt.frozen (h : ArrAt w B T l) (k : Nat) : w.frozen? ⟨B, k, none⟩ = false := frozen_of_row w B k _ T h
theorem ArrAt.seen (h : ArrAt w B T l) {n : Nat} (hn : l.length = n) (hm : n ≤ 1000) : Seen w (.slice (some ⟨B, 0, none⟩) n n) (bys l) :=
  ⟨_, n, by simp [hn], by simp [hn], by unfold maxLen; omega, fun _ => ⟨B, 0, rfl, h.lt, fun i u hu => by
    rw [cell_of_row w B _ _ T _ h, List.getElem?_toArray, Nat.zero_add]; exact hu⟩⟩
theorem bys_set (l : List UInt8) (k : Nat) (x : UInt8) : bys (l.set k x) = (bys l).set k (.int .u8 (x.toNat : Int)) := by simp [bys, List.map_set]
theorem ArrAt.set (h : ArrAt w B T l) (k : Nat) (x : UInt8) : ArrAt (w.setCell ⟨B, k, none⟩ (.int .u8 (x.toNat : Int))) B T (l.set k x) := by
  unfold ArrAt
  rw [heap_setCell_same w B k _ T _ h, bys_set]
  simp
theorem turn_set (w : World) (B o : Nat) (x : Value) : TurnIn B (B + 1) w (w.setCell ⟨B, o, none⟩ x) :=
  ⟨rfl, rfl, rfl, by simp, fun k hk hd => heap_setCell_other w _ k x (by rcases hd with h | h <;> simp <;> omega)⟩
theorem ArrAt.row (h : ArrAt w B T l) (m : List UInt8) : ArrAt (w.setRow B (bys m).toArray) B T m := setRow_heap w B _ _ T _ h
theorem turn_row (w : World) (B : Nat) (x : Array Value) : TurnIn B (B + 1) w (w.setRow B x) :=
  ⟨rfl, rfl, rfl, by simp, fun k hk hd => setRow_other w B k x (by omega)⟩
theorem turn_drewA {a b : Nat} {w w' : World} (t : TurnIn a b w w') : TurnIn a b w w'.drew := ⟨t.os, t.tape, t.output, t.size, t.block⟩
theorem drew_turnA (w : World) : TurnIn 0 0 w w.drew := ⟨rfl, rfl, rfl, Nat.le_refl _, fun _ _ _ => rfl⟩
theorem undrewA {a b : Nat} {w w' : World} (t : TurnIn a b w.drew w') : TurnIn a b w w' := ⟨t.os, t.tape, t.output, t.size, t.block⟩
theorem cell_keepA {w w' : World} {B o a b : Nat} {x : Value} (h : w.cell? ⟨B, o, none⟩ = some x) (hl : B < w.heap.size) (t : TurnIn a b w w') (d : B < a ∨ b ≤ B) : w'.cell? ⟨B, o, none⟩ = some x := (World.cell?_of_block (t.block B hl d)).trans h
theorem turn_from {n : Nat} {a b : World} (h : Below n a b) : TurnIn n a.heap.size a b := ⟨h.os, h.tape, h.output, h.size, fun k hk hd => h.block k (by omega)⟩
theorem bys_all (l : List UInt8) : (bys l).toArray.all (·.oneCell') = true := by
  rw [Array.all_eq_true_iff_forall_mem]
  intro x hx
  exact bys_one x l (by simpa using hx)
end
section
variable {P : Program} {ops : Array Oper} {rest : List Oper} {o : Oper} {a : Act} {w : World} {Q : Exit → Act → World → Prop}
/-- a new array variable -/
theorem wpList_alloc_arr (hgd : o.guard = none) (ty : TypeId) (ho : o.op = .alloc ty) (z : List UInt8) (hz : (P.info? ty).map (·.zero) = some (some (aggL z)))
    (h : ∀ W', Hid (W' = w.alloc (.cells (bys z).toArray ty)) → wpList P ops Q rest (a.put o.dst (.pointer (some ⟨w.heap.size, 0, none⟩))) W') : wpList P ops Q (o :: rest) a w := by
  refine wpList_plain hgd fun K hK => ?_
  cases hq : P.info? ty with
  | none => simp [hq] at hz
  | some i =>
    simp [hq, aggL] at hz
    have := hK _ _ (h _ rfl)
    unfold Oper.wp execOp
    simpa [ho, Instr.alloc, zeroValue, typeInfo, hq, hz, newVar, newRow, Value.cells, Result.andThen, Oper.upon] using this
/-- an array parameter is boxed -/
theorem wpList_box_arr (hgd : o.guard = none) (ty : TypeId) (x : Operand) (ho : o.op = .box ty x) (z : List UInt8) (hx : a.eval x = aggL z)
    (h : ∀ W', Hid (W' = w.alloc (.cells (bys z).toArray ty)) → wpList P ops Q rest (a.put o.dst (.pointer (some ⟨w.heap.size, 0, none⟩))) W') : wpList P ops Q (o :: rest) a w := by
  refine wpList_plain hgd fun K hK => ?_
  have := hK _ _ (h _ rfl)
  unfold Oper.wp execOp
  simpa [ho, hx, aggL, Instr.box, newVar, newRow, Value.cells, Result.andThen, Oper.upon] using this
theorem wpList_store_arr (hgd : o.guard = none) (ty : TypeId) (x y : Operand) (ho : o.op = .store ty x y) (g n : Nat) (t : TypeId) (l0 l : List UInt8) (hx : a.eval x = .pointer (some ⟨g, 0, none⟩)) (hy : a.eval y = aggL l)
    (hg : ArrAt w g t l0) (hi : (P.info? ty).map (·.size) = some n) (h0 : l0.length = n) (hl : l.length = n)
    (h : ∀ W', Hid (W' = w.setRow g (bys l).toArray) → wpList P ops Q rest (a.put o.dst undef) W') : wpList P ops Q (o :: rest) a w :=
  wpList_store_row hgd ty x y ho g (bys l).toArray hx hy t (bys l0).toArray hg (by rw [hi]; simp [hl]) (by simp [h0, hl]) (bys_all l) (h _ rfl)
theorem wpList_load_arr (hgd : o.guard = none) (ty : TypeId) (x : Operand) (ho : o.op = .load ty x) (g n k : Nat) (e t : TypeId) (l : List UInt8) (hx : a.eval x = .pointer (some ⟨g, 0, none⟩))
    (hg : ArrAt w g t l) (hi : (P.info? ty).map (·.size) = some n) (hu : P.underlying ty = some (.array k e)) (hl : l.length = n)
    (h : ∀ u, Hid (u = aggL l) → wpList P ops Q rest (a.put o.dst u) w) : wpList P ops Q (o :: rest) a w :=
  wpList_load_row hgd ty x ho g hx t (bys l).toArray (0, 0) _ hg hu rfl (by rw [hi]; simp [hl]) (h _ rfl)
theorem wpList_index_arr (hgd : o.guard = none) (ty : TypeId) (x ix : Operand) (ho : o.op = .index ty x ix) (l : List UInt8) (k n : Nat) (e : TypeId) (hx : a.eval x = aggL l) (hix : a.eval ix = .int .i64 (k : Int)) (hu : P.underlying ty = some (.array n e))
    (he : P.underlying e = some (.int .u8)) (hs : (P.info? e).map (·.size) = some 1) (hn : l.length = n) (hk : k < l.length) (h : ∀ u, Hid (u = .int .u8 (l[k].toNat : Int)) → wpList P ops Q rest (a.put o.dst u) w) : wpList P ops Q (o :: rest) a w := by
  refine wpList_plain hgd fun K hK => ?_
  have := hK _ _ (h _ rfl)
  cases hq : P.info? e with
  | none => simp [hq] at hs
  | some i =>
    simp [hq] at hs
    have h1 : (0 : Int) ≤ (k : Int) ∧ (k : Int) < (n : Int) := by omega
    have h2 : (bys l).toArray[k]? = some (.int .u8 (l[k].toNat : Int)) := by rw [List.getElem?_toArray, bys_get l k hk]
    unfold Oper.wp execOp
    have h3 : k < n := by omega
    simpa [ho, hx, hix, aggL, Instr.index, asIntOf, run_underlying hu, h3, Go.sizeOf, typeInfo, hq, hs, part, isAgg, run_underlying he, h2, bys_get l k hk, Result.andThen, Oper.upon] using this
/-- two arrays compared -/
theorem wpList_eql_arr (hgd : o.guard = none) (ty ty2 : TypeId) (x y : Operand) (ho : o.op = .binOp .eql ty x y ty2) (u v : Value) (hx : a.eval x = u) (hy : a.eval y = v) (hq : (eqGuard .eql ty x y u v).run P w = .ok () w) {r : Bool} (hr : (binOp .eql ty u v).run P w = .ok (.bool r) w)
    (h : wpList P ops Q rest (a.put o.dst (.bool r)) w) : wpList P ops Q (o :: rest) a w := by
  refine wpList_plain hgd fun K hK => ?_
  have := hK _ _ h
  unfold Oper.wp execOp
  simpa [ho, hx, hy, hq, hr, Result.andThen, Oper.upon] using this
/-- an array result -/
theorem ret_arr {fn : Func} {p : Tmp} {ty : TypeId} (h : fn.results = #[.cell p ty]) (tmps : Array Value) (g n k : Nat) (t e : TypeId) (l : List UInt8) (hp : tmps.getD p undef = .pointer (some ⟨g, 0, none⟩)) (hg : ArrAt w g t l)
    (hu : P.underlying ty = some (.array k e)) (hi : (P.info? ty).map (·.size) = some n) (hl : l.length = n) : (results fn tmps).run P w = .ok (aggL l) w :=
  results_cell_row h tmps w g t (bys l).toArray (0, 0) _ hp hg hu rfl (by rw [hi]; simp [hl])
end
theorem stillA {P : Program} {f : FuncId} {args : Array Value} {w : World} {v : Value} (h : Calls P f args w fun e w' => e = .returned v ∧ w = w') :
    Calls P f args w fun e w' => e = .returned v ∧ w' = w := h.mono fun _ _ ⟨he, hw⟩ => ⟨he, hw.symm⟩
/-- a multiple of V added to the first k elements of M -/
def mixK (f : UInt8) (M V : List UInt8) (k : Nat) : List UInt8 := (addL M (scaleL f V)).take k ++ M.drop k
theorem mixK_zero (f : UInt8) (M V : List UInt8) : mixK f M V 0 = M := by simp [mixK]
theorem mixK_end (f : UInt8) (M V : List UInt8) (h : M.length = V.length) (k : Nat) (hk : M.length ≤ k) : mixK f M V k = addL M (scaleL f V) := by
  unfold mixK
  rw [List.take_of_length_le (by rw [addL_lenS _ _ (by rw [scaleL_lenS, h])]; exact hk), List.drop_of_length_le hk, List.append_nil]
theorem mixK_len (f : UInt8) (M V : List UInt8) (h : M.length = V.length) (k : Nat) (hk : k ≤ M.length) : (mixK f M V k).length = M.length := by
  simp [mixK, addL_lenS _ _ (show M.length = (scaleL f V).length by rw [scaleL_lenS, h])]; omega
theorem mixK_get (f : UInt8) (M V : List UInt8) (h : M.length = V.length) (k : Nat) (hk : k < M.length) : (mixK f M V k)[k]? = some M[k] := by
  have hl := addL_lenS M (scaleL f V) (by rw [scaleL_lenS, h])
  show ((addL M (scaleL f V)).take k ++ M.drop k)[k]? = _
  rw [List.getElem?_append_right (by rw [List.length_take, hl]; omega)]
  simp [List.length_take, hl, Nat.min_eq_left (Nat.le_of_lt hk)]
theorem mixK_set (f : UInt8) (M V : List UInt8) (h : M.length = V.length) (k : Nat) (hk : k < M.length) (hv : k < V.length) : (mixK f M V k).set k (M[k] ^^^ gmul f V[k]) = mixK f M V (k + 1) := by
  unfold mixK
  have hl := addL_lenS M (scaleL f V) (by rw [scaleL_lenS, h])
  refine take_set_over _ _ k _ ?_ hl
  simp [addL, scaleL, List.getElem?_zipWith, hk, hv]
end G294

/- Arrays of 20 bytes: the program's hidden. -/
namespace G294
open Go
theorem hid_splice (s : UInt8) (l : List UInt8) (h : l.length ≤ 19) : splice (bys (pad20 [s])) 1 (bys l) = bys (pad20 (s :: l)) := by
  have e1 : bys (pad20 [s]) = .int .u8 (s.toNat : Int) :: List.replicate 19 (.int .u8 0) := rfl
  have e2 : bys (pad20 (s :: l)) = .int .u8 (s.toNat : Int) :: (bys l ++ List.replicate (19 - l.length) (.int .u8 0)) := by
    simp [pad20, bys, show 20 - (l.length + 1) = 19 - l.length by omega]
  rw [e1, e2]
  unfold splice
  rw [bys_length, Nat.add_comm 1, List.drop_succ_cons, List.drop_replicate]
  rfl
end G294
namespace Go.Proofs.YtgbhcjfnkjhkiaaDoor
open Go.RowKit G294

theorem infoCoef : (Tryd.prog.info? 136).map (fun i => (i.zero, i.size)) = some (some (aggL (List.replicate 20 0)), 20) := by kernel_rfl

theorem zeroCoef : (Tryd.prog.info? 136).map (·.zero) = some (some (aggL (List.replicate 20 0))) := by
  have := infoCoef
  cases h : Tryd.prog.info? 136 <;> simp_all

theorem sizeCoef : (Tryd.prog.info? 136).map (·.size) = some 20 := by
  have := infoCoef
  cases h : Tryd.prog.info? 136 <;> simp_all

theorem sizeByteA : (Tryd.prog.info? 5).map (·.size) = some 1 := by
  have := infoByte
  cases h : Tryd.prog.info? 5 <;> simp_all

set_option maxRecDepth 100000 in
set_option maxHeartbeats 1000000 in
theorem hidden_own (s : UInt8) (v : Value) (l : List UInt8) (w : World) (hv : Seen w v (bys l)) (hl : l.length ≤ 19) :
    Calls Tryd.prog 113 #[.int .u8 (s.toNat : Int), v] w fun e w' => e = .returned (aggL (pad20 (s :: l))) ∧ TurnIn 0 0 w w' := by
  obtain ⟨A, c, rfl, hlc, hcm, hx⟩ := hv
  simp only [bys_length] at hlc hx ⊢
  unfold maxLen at hcm
  have HX := Lib.hid hx
  have HSP := Lib.hid (hid_splice s l hl)
  have HB := Lib.hid (bys_length l)
  have HLN := Lib.hid (pad20_length (l := s :: l) (by simp; omega))
  clear hx
  go_enter Tryd.func113, Tryd.ntmps113
  go_wp2_with (refine wpList_alloc_arr rfl 136 rfl _ zeroCoef ?_)
  intro W1 hW1
  replace hW1 := hW1.out
  have t1 := hW1 ▸ turn_alloc w (.cells (bys (List.replicate 20 0)).toArray 136)
  have r1 := hW1 ▸ ArrAt.new w 136 (List.replicate 20 0)
  have z1 := hW1 ▸ World.size_alloc w (.cells (bys (List.replicate 20 0)).toArray 136)
  clear hW1
  generalize hB : w.heap.size = B at *
  have HBE := Lib.hid hB
  clear hB
  go_wp2_with (refine wpList_alloc_arr rfl 136 rfl _ zeroCoef ?_)
  intro W2 hW2
  replace hW2 := hW2.out
  have t2 := hW2 ▸ turn_alloc W1 (.cells (bys (List.replicate 20 0)).toArray 136)
  have r2 := hW2 ▸ ArrAt.new W1 136 (List.replicate 20 0)
  have z2 := hW2 ▸ World.size_alloc W1 (.cells (bys (List.replicate 20 0)).toArray 136)
  rw [z1] at r2 z2
  replace r1 := r1.keep t2 (by omega)
  clear hW2
  go_wp2_with (refine wpList_store_arr rfl 136 _ _ rfl (B + 1) 20 _ _ (pad20 [s]) rfl rfl r2 sizeCoef (by simp) (by simp [pad20]) ?_)
  intro W3 hW3
  replace hW3 := hW3.out
  have r3 := hW3 ▸ r2.row (pad20 [s])
  have t3 := hW3 ▸ turn_row W2 (B + 1) (bys (pad20 [s])).toArray
  replace r1 := r1.keep t3 (by omega)
  have z3 : W3.heap.size = B + 1 + 1 := by rw [hW3]; simp [z2]
  have hb3 : TurnIn 0 0 w W3 := turn_trans (turn_trans t1 t2 (by omega)) t3 (by have := HBE.out; omega)
  clear hW3 r2 t3 t1 t2
  go_wp2_with (refine wpList_copy_splice rfl _ _ _ _ rfl 5 Tryd.underlying22 sizeByteA _ _ _ _ _ _ rfl rfl (B + 1) 1 (bys (pad20 [s])) 136 r3 (bys l) ?c1 ?c2 ?c3 ?c4 (B + 1) W3 (Below.refl _ _) (Nat.le_refl _) ?_)
  case c1 => rw [HB.out]; show _ = min _ _; omega
  case c2 =>
    intro hp
    obtain ⟨b, off, rfl, hbl, hcell⟩ := HX.out hp
    refine ⟨_, rfl, fun j u hu => ?_⟩
    rw [Addr.add_lit]
    exact cell_turn hb3 (hcell j u hu) (by rw [HBE.out]; exact hbl)
  case c3 => rw [HB.out]; simp [pad20]; omega
  case c4 => exact fun u hu => bys_one u l hu
  intro W4 hg4 hb4
  rw [HSP.out] at hg4
  have r4 : ArrAt W4 (B + 1) 136 (pad20 (s :: l)) := hg4.out
  have t4 := turn_from hb4
  rw [z3] at t4
  have z4 : B + 1 + 1 ≤ W4.heap.size := by have := hb4.size; omega
  replace r1 := r1.keep t4 (by omega)
  have hb5 : TurnIn 0 0 w W4 := turn_trans hb3 t4 (by have := HBE.out; omega)
  clear hg4 r3 hb4 t4
  go_wp2_with (refine wpList_load_arr rfl 136 _ rfl (B + 1) 20 20 5 _ _ rfl r4 sizeCoef Tryd.underlying136 HLN.out ?_)
  intro u hu
  replace hu := hu.out
  subst hu
  go_wp2_with (refine wpList_store_arr rfl 136 _ _ rfl B 20 _ _ (pad20 (s :: l)) rfl rfl r1 sizeCoef (by simp) HLN.out ?_)
  intro W5 hW5
  replace hW5 := hW5.out
  have r5 := hW5 ▸ r1.row (pad20 (s :: l))
  have t5 := hW5 ▸ turn_row W4 B (bys (pad20 (s :: l))).toArray
  have hb6 : TurnIn 0 0 w W5 := turn_trans hb5 t5 (by have := HBE.out; omega)
  clear hW5
  go_wp2_with fail
  exact bodyPost_ret (ret_arr rfl _ B 20 20 _ 5 _ rfl r5 Tryd.underlying136 sizeCoef HLN.out) rfl ⟨rfl, hb6⟩

end Go.Proofs.YtgbhcjfnkjhkiaaDoor

/- Arrays of 20 bytes: the program's withRoot. -/
namespace G294
open Go
theorem root_splice (V : List UInt8) (h : V.length = 20) : splice (bys (List.replicate 20 0)) 1 (bys (V.take 19)) = bys (0 :: V.take 19) := by
  have e1 : bys (List.replicate 20 0) = .int .u8 0 :: List.replicate 19 (.int .u8 0) := rfl
  have e2 : (V.take 19).length = 19 := by simp [h]
  rw [e1]
  unfold splice
  rw [bys_length, e2]
  simp [bys]
end G294
namespace Go.Proofs.YtgbhcjfnkjhkiaaDoor
open Go.RowKit G294

set_option maxRecDepth 100000 in
set_option maxHeartbeats 2000000 in
theorem withRoot_own (V : List UInt8) (r : UInt8) (w : World) (hV : V.length = 20) (ht : Tab w) (h0 : 0 < w.heap.size) :
    Calls Tryd.prog 148 #[aggL V, .int .u8 (r.toNat : Int)] w fun e w' => e = .returned (aggL (wrC r V)) ∧ TurnIn 0 0 w w' := by
  have HSP := Lib.hid (root_splice V hV)
  have HL19 : Hid ((0 :: V.take 19).length = V.length) := by show _ = _; simp [hV]
  have HLW : Hid ((wrC r V).length = 20) := by
    show _ = _
    unfold wrC
    rw [addL_lenS _ _ (by rw [scaleL_lenS]; exact HL19.out), HL19.out, hV]
  have HT := Lib.hid ht
  clear ht
  go_enter Tryd.func148, Tryd.ntmps148
  go_wp2_with (refine wpList_box_arr rfl 136 _ rfl V rfl ?_)
  intro W1 hW1
  replace hW1 := hW1.out
  have t1 := hW1 ▸ turn_alloc w (.cells (bys V).toArray 136)
  have r1 := hW1 ▸ ArrAt.new w 136 V
  have z1 := hW1 ▸ World.size_alloc w (.cells (bys V).toArray 136)
  clear hW1
  generalize hB : w.heap.size = B at *
  have HBE := Lib.hid hB
  clear hB
  go_wp2_with (refine wpList_alloc_arr rfl 136 rfl _ zeroCoef ?_)
  intro W2 hW2
  replace hW2 := hW2.out
  have t2 := hW2 ▸ turn_alloc W1 (.cells (bys (List.replicate 20 0)).toArray 136)
  have r2 := hW2 ▸ ArrAt.new W1 136 (List.replicate 20 0)
  have z2 := hW2 ▸ World.size_alloc W1 (.cells (bys (List.replicate 20 0)).toArray 136)
  rw [z1] at r2 z2
  replace r1 := r1.keep t2 (by omega)
  replace t1 := turn_trans t1 t2 (by omega)
  clear hW2 t2 z1
  go_wp2_with (refine wpList_alloc_arr rfl 136 rfl _ zeroCoef ?_)
  intro W3 hW3
  replace hW3 := hW3.out
  have t3 := hW3 ▸ turn_alloc W2 (.cells (bys (List.replicate 20 0)).toArray 136)
  have r3 := hW3 ▸ ArrAt.new W2 136 (List.replicate 20 0)
  have z3 := hW3 ▸ World.size_alloc W2 (.cells (bys (List.replicate 20 0)).toArray 136)
  rw [z2] at r3 z3
  replace r1 := r1.keep t3 (by omega)
  replace r2 := r2.keep t3 (by omega)
  replace t1 := turn_trans t1 t3 (by omega)
  clear hW3 t3 z2
  have HC4 : Hid (∀ v ∈ bys (V.take 19), v.oneCell' = true) := fun u hu => bys_one u _ hu
  have HC1 : Hid ((bys (V.take 19)).length = 19) := by show _ = _; simp [hV]
  have HC2 : Hid (∀ j v, (bys (V.take 19))[j]? = some v → W3.drew.cell? ((⟨B, 0, none⟩ : Addr).add j) = some v) := fun j v hv => by
    have hj : j < 19 := by have := (List.getElem?_eq_some_iff.1 hv).1; rw [HC1.out] at this; exact this
    rw [Addr.add_lit, Nat.zero_add]
    rw [bys_get _ j (by simp [hV]; omega)] at hv
    rw [show W3.drew.cell? ⟨B, j, none⟩ = W3.cell? ⟨B, j, none⟩ from rfl, r1.cell j (by omega), ← hv]
    simp
  go_wp2_with fail
  go_region_law (refine step_copy_splice rfl _ _ _ _ rfl 5 Tryd.underlying22 sizeByteA (some ⟨B + 1 + 1, 1, none⟩) (some ⟨B, 0, none⟩) 19 19 20 20 rfl rfl (B + 1 + 1) 1 (bys (List.replicate 20 0)) 136 r3 (bys (V.take 19)) (by rw [HC1.out]; rfl) (fun _ => ⟨rfl, _, rfl, HC2.out⟩) (by rw [HC1.out]; simp) HC4.out (B + 1 + 1) W3 (Below.refl _ _).drew (Nat.le_refl _) ?_; intro W4 hg4 hb4)
  all_goals
    rw [HSP.out] at hg4
    have r4 : ArrAt W4 (B + 1 + 1) 136 (mixK r (0 :: V.take 19) V 0) := by rw [mixK_zero]; exact hg4.out
    have t4 := turn_from hb4
    rw [z3] at t4
    have z4 : B + 1 + 1 + 1 ≤ W4.heap.size := by have := hb4.size; omega
    replace r1 := r1.keep t4 (by omega)
    replace r2 := r2.keep t4 (by omega)
    replace t1 := turn_trans t1 t4 (by have := HBE.out; omega)
    clear hg4 hb4 t4 r3 HC1 HC2 HC4
    go_wp2_with (refine wpList_load_arr rfl 136 _ rfl B 20 20 5 _ _ rfl r1 sizeCoef Tryd.underlying136 hV ?_)
    intro u hu
    replace hu := hu.out
    subst hu
    go_wp2_with fail
    go_loopw [12] (fun i wr => ∃ k : Nat, k ≤ 20 ∧ i = .int .i64 k ∧ ArrAt wr (B + 1 + 1) 136 (mixK r (0 :: V.take 19) V k) ∧ ArrAt wr (B + 1) 136 (List.replicate 20 0) ∧ TurnIn 0 0 w wr ∧ B + 1 + 1 + 1 ≤ wr.heap.size)
      (fun i _ => 20 - (intOf i).toNat)
    case atStart => exact ⟨0, by omega, rfl, r4, r2, t1, z4⟩
    case round =>
      obtain ⟨k, hk, rfl, q4, q2, q1, z5⟩ := hrel
      clear r4 r2 t1 z4 r1 z3
      by_cases hlt : k < 20
      · have hki : (k : Int) < 20 := by omega
        have hkV : k < V.length := by omega
        have hkM : k < (0 :: V.take 19).length := by rw [HL19.out]; exact hkV
        have hcx := q4.cellAt (mixK_get r (0 :: V.take 19) V HL19.out k hkM)
        have hfr := q4.frozen k
        have htab : Tab wr := HT.out.below q1.to_below (by rw [HBE.out]; exact h0)
        obtain ⟨c, hc⟩ : ∃ c, c = V[k] := ⟨_, rfl⟩
        obtain ⟨m, hm⟩ : ∃ m, m = (0 :: V.take 19)[k] := ⟨_, rfl⟩
        rw [← hm] at hcx
        have HC := Lib.hid (stillA (times_u8 r c wr.drew (show Tab wr.drew from htab)))
        have hxor := xor_u8 m (gmul r c)
        have hst := q4.set k (m ^^^ gmul r c)
        rw [hm, hc, mixK_set r (0 :: V.take 19) V HL19.out k hkM hkV] at hst
        rw [← hm, ← hc] at hst
        have tst := turn_set wr (B + 1 + 1) k (.int .u8 ((m ^^^ gmul r c).toNat : Int))
        have q2' := q2.keep tst (by omega)
        have q1' : TurnIn 0 0 w _ := turn_trans q1 tst (by have := HBE.out; omega)
        have HST := Lib.hid hst
        have HQ2 := Lib.hid q2'
        have HQ1 := Lib.hid q1'
        have HCC : Hid (c = V[k]) := hc
        clear hst q2' q1' tst hm hc htab
        go_wp2_with (refine wpList_index_arr rfl 136 _ _ rfl V k 20 5 rfl rfl Tryd.underlying136 Tryd.underlying5 sizeByteA hV hkV ?_)
        intro u hu
        replace hu := hu.out
        rw [← HCC.out] at hu
        subst hu
        go_wp2_with fail
        refine wp_region_still_tail 8 (by kernel_rfl) (by kernel_rfl) ?_
        simp only [List.take_succ_cons, List.take_zero, List.drop_succ_cons, List.drop_zero]
        repeat (first | still_step | still_call (HC.out))
        refine wpStill_nil ?_
        go_wp2_with fail
        go_roundw
        case rel => exact ⟨k + 1, by omega, by go_num, HST.out, HQ2.out, turn_drewA HQ1.out, by simp; omega⟩
        case measure => simp [intOf]; omega
      · obtain rfl : k = 20 := by omega
        have hki : ¬ ((20 : Nat) : Int) < 20 := by omega
        have hend : mixK r (0 :: V.take 19) V 20 = wrC r V := mixK_end r _ V HL19.out 20 (by rw [HL19.out, hV]; exact Nat.le_refl _)
        rw [hend] at q4
        clear hend
        go_wp2_with (refine wpList_load_arr rfl 136 _ rfl (B + 1 + 1) 20 20 5 _ _ rfl q4 sizeCoef Tryd.underlying136 HLW.out ?_)
        intro u hu
        replace hu := hu.out
        subst hu
        go_wp2_with (refine wpList_store_arr rfl 136 _ _ rfl (B + 1) 20 _ _ (wrC r V) rfl rfl q2 sizeCoef (by simp) HLW.out ?_)
        intro W5 hW5
        replace hW5 := hW5.out
        have r5 := hW5 ▸ q2.row (wrC r V)
        have t5 := hW5 ▸ turn_row wr (B + 1) (bys (wrC r V)).toArray
        have hb6 : TurnIn 0 0 w W5 := turn_trans q1 t5 (by have := HBE.out; omega)
        clear hW5
        go_wp2_with fail
        exact bodyPost_ret (ret_arr rfl _ (B + 1) 20 20 _ 5 _ rfl r5 Tryd.underlying136 sizeCoef HLW.out) rfl ⟨rfl, hb6⟩

end Go.Proofs.YtgbhcjfnkjhkiaaDoor

/- Arrays of 20 bytes: the program's through (Newton). -/
namespace G294
theorem nwK_succ (l : List Sr) (k : Nat) : nwK l (k + 1) = (addC (gmul (yF l k ^^^ hor (xF l k) (nwK l k).1) (ginv (hor (xF l k) (nwK l k).2))) (nwK l k).1 (nwK l k).2, wrC (xF l k) (nwK l k).2) := rfl
end G294
namespace Go.Proofs.YtgbhcjfnkjhkiaaDoor
open Go.RowKit G294

theorem inverse_u8 (a : UInt8) (w : World) (ht : Tab w) :
    Calls Tryd.prog 147 #[.int .u8 (a.toNat : Int)] w fun e w' => e = .returned (.int .u8 ((ginv a).toNat : Int)) ∧ w = w' := by
  rw [ginv_toNat]; exact inverse_any _ a.toNat_lt w ht

set_option maxRecDepth 100000 in
set_option maxHeartbeats 4000000 in
theorem through_own (v : Value) (l : List Sr) (w : World) (hv : SeenR w v l) (hl : l.length ≤ 20) (ht : Tab w) (h0 : 0 < w.heap.size) :
    Calls Tryd.prog 117 #[v] w fun e w' => e = .returned (aggL (thr l)) ∧ TurnIn 0 0 w w' := by
  obtain ⟨A, c, rfl, hlc, hcm, hx⟩ := hv
  unfold maxLen at hcm
  have HT := Lib.hid ht
  have HTH : Hid (thr l = (nwK l l.length).1) := rfl
  have HX := Lib.hid hx
  generalize hnn : l.length = n at *
  have HN := Lib.hid hnn
  clear ht hnn hx
  have HLEN := Lib.hid (nw_len l)
  go_enter Tryd.func117, Tryd.ntmps117
  go_wp2_with (refine wpList_alloc_arr rfl 136 rfl _ zeroCoef ?_)
  intro W1 hW1
  replace hW1 := hW1.out
  have t1 := hW1 ▸ turn_alloc w (.cells (bys (List.replicate 20 0)).toArray 136)
  have r1 := hW1 ▸ ArrAt.new w 136 (List.replicate 20 0)
  have z1 := hW1 ▸ World.size_alloc w (.cells (bys (List.replicate 20 0)).toArray 136)
  clear hW1
  generalize hB : w.heap.size = B at *
  have HBE := Lib.hid hB
  clear hB
  go_wp2_with (refine wpList_alloc_arr rfl 136 rfl _ zeroCoef ?_)
  intro W2 hW2
  replace hW2 := hW2.out
  have t2 := hW2 ▸ turn_alloc W1 (.cells (bys (List.replicate 20 0)).toArray 136)
  have r2 := hW2 ▸ ArrAt.new W1 136 (List.replicate 20 0)
  have z2 := hW2 ▸ World.size_alloc W1 (.cells (bys (List.replicate 20 0)).toArray 136)
  rw [z1] at r2 z2
  replace r1 := r1.keep t2 (by omega)
  replace t1 := turn_trans t1 t2 (by omega)
  clear hW2 t2 z1
  go_wp2_with (refine wpList_alloc_arr rfl 136 rfl _ zeroCoef ?_)
  intro W3 hW3
  replace hW3 := hW3.out
  have t3 := hW3 ▸ turn_alloc W2 (.cells (bys (List.replicate 20 0)).toArray 136)
  have r3 := hW3 ▸ ArrAt.new W2 136 (List.replicate 20 0)
  have z3 := hW3 ▸ World.size_alloc W2 (.cells (bys (List.replicate 20 0)).toArray 136)
  rw [z2] at r3 z3
  replace r1 := r1.keep t3 (by omega)
  replace r2 := r2.keep t3 (by omega)
  replace t1 := turn_trans t1 t3 (by omega)
  clear hW3 t3 z2
  go_wp2_with (refine wpList_store_arr rfl 136 _ _ rfl (B + 1 + 1) 20 _ _ (1 :: List.replicate 19 0) rfl rfl r3 sizeCoef (by simp) (by simp) ?_)
  intro W4 hW4
  replace hW4 := hW4.out
  have r4 := hW4 ▸ r3.row (1 :: List.replicate 19 0)
  have t4 := hW4 ▸ turn_row W3 (B + 1 + 1) (bys (1 :: List.replicate 19 0)).toArray
  have z4 : W4.heap.size = B + 1 + 1 + 1 := by rw [hW4]; simp [z3]
  replace r1 := r1.keep t4 (by omega)
  replace r2 := r2.keep t4 (by omega)
  replace t1 := turn_trans t1 t4 (by have := HBE.out; omega)
  clear hW4 t4 r3 z3
  have q2 : ArrAt W4 (B + 1) 136 (nwK l 0).1 := r2
  have q3 : ArrAt W4 (B + 1 + 1) 136 (nwK l 0).2 := r4
  clear r2 r4
  go_wp2_with fail
  go_loopw [14] (fun i wr => ∃ k : Nat, k ≤ n ∧ i = .int .i64 k ∧ ArrAt wr (B + 1) 136 (nwK l k).1 ∧ ArrAt wr (B + 1 + 1) 136 (nwK l k).2 ∧ ArrAt wr B 136 (List.replicate 20 0) ∧ TurnIn 0 0 w wr ∧ B + 1 + 1 + 1 ≤ wr.heap.size)
    (fun i _ => n - (intOf i).toNat)
  case atStart => exact ⟨0, by omega, rfl, q2, q3, r1, t1, by omega⟩
  case round =>
    obtain ⟨k, hk, rfl, p2, p3, p1, s1, z5⟩ := hrel
    clear q2 q3 r1 t1 z4
    obtain ⟨hP, hV⟩ := HLEN.out k
    have HNS := Lib.hid (nwK_succ l k)
    by_cases hlt : k < n
    · generalize (nwK l k).1 = P at *
      generalize (nwK l k).2 = V at *
      obtain ⟨b, off, rfl, hbl, hcell⟩ := HX.out (by omega)
      obtain ⟨⟨x, y⟩, hks⟩ := at_ltR HN.out hlt
      obtain ⟨e1, e2⟩ := at_xy hks
      rw [← e1, ← e2] at HNS
      simp only at HNS
      have hb := s1.to_below
      have hc1 := (hb.cell (p := ⟨b, off + k * 2, none⟩) (by rw [HBE.out]; exact hbl)).trans (hcell k _ hks).1
      have hc2 := (hb.cell (p := ⟨b, off + k * 2 + 1, none⟩) (by rw [HBE.out]; exact hbl)).trans (hcell k _ hks).2
      simp only at hc1 hc2
      have hki : (k : Int) < (n : Int) := by omega
      have ta := turn_alloc wr (.cells #[.int .u8 (x.toNat : Int), .int .u8 (y.toNat : Int)] 59)
      have hp0 : (wr.alloc (.cells #[.int .u8 (x.toNat : Int), .int .u8 (y.toNat : Int)] 59)).cell? ⟨wr.heap.size, 0, none⟩ = some (.int .u8 (x.toNat : Int)) := by simp
      have hp1 : (wr.alloc (.cells #[.int .u8 (x.toNat : Int), .int .u8 (y.toNat : Int)] 59)).cell? ⟨wr.heap.size, 1, none⟩ = some (.int .u8 (y.toNat : Int)) := by simp
      have za := World.size_alloc wr (.cells #[.int .u8 (x.toNat : Int), .int .u8 (y.toNat : Int)] 59)
      replace p1 := p1.keep ta (by omega)
      replace p2 := p2.keep ta (by omega)
      replace p3 := p3.keep ta (by omega)
      replace s1 := turn_trans s1 ta (by omega)
      clear e1 e2 hcell hks hb ta
      go_wp2_with fail
      generalize wr.alloc (.cells #[.int .u8 (x.toNat : Int), .int .u8 (y.toNat : Int)] 59) = Wa at *
      generalize hBp : wr.heap.size = Bp at *
      clear hBp hc1 hc2
      have HS1 := Lib.hid ((p2.seen hP (by omega)).touch (drew_turnA Wa))
      have HTA : Hid (∀ W, TurnIn 0 0 w W → Tab W ∧ 0 < W.heap.size) := fun W hW => ⟨HT.out.below hW.to_below (by rw [HBE.out]; exact h0), by have := hW.size; have := HBE.out; omega⟩
      have HTD := Lib.hid (HTA.out Wa.drew (turn_drewA s1))
      go_region_held3 (fun w' => w'.cell? ⟨Bp, 0, none⟩ = some (.int .u8 (x.toNat : Int)) ∧ w'.cell? ⟨Bp, 1, none⟩ = some (.int .u8 (y.toNat : Int)))
        (first | exact ⟨hp0, hp1⟩ | exact ⟨cell_turn ht hp0 (by simp; omega), cell_turn ht hp1 (by simp; omega)⟩)
        ((go_at_call 114; refine (valueAt_own _ P x _ HS1.out (by omega) HTD.out.1 HTD.out.2).mono ?_; rintro e w' ⟨rfl, ht⟩))
      all_goals
        replace ht := undrewA ht
        have s2 := turn_trans s1 ht (by omega)
        have hs2 := ht.size
        have p1a := p1.keep ht (by omega)
        have p2a := p2.keep ht (by omega)
        have p3a := p3.keep ht (by omega)
        have hq0 := cell_turn ht hp0 (by omega)
        have HS2 := Lib.hid ((p3a.seen hV (by omega)).touch (drew_turnA w'))
        have HTD2 := Lib.hid (HTA.out w'.drew (turn_drewA s2))
        clear p1 p2 p3 s1 hp0 hp1 HS1 HTD
        rw [xor_u8 y (hor x P)]
        go_wp2_with fail
        go_region_held3 (fun W => W.cell? ⟨Bp, 0, none⟩ = some (.int .u8 (x.toNat : Int)))
          (first | exact hq0 | exact cell_turn ht2 hq0 (by simp; omega))
          (first | (go_at_call 114; refine (valueAt_own _ V x _ HS2.out (by omega) HTD2.out.1 HTD2.out.2).mono ?_; rintro e w2 ⟨rfl, ht2⟩; have HTE := Lib.hid (HTA.out w2 (turn_trans s2 (undrewA ht2) (by omega)))) | (go_at_call 147; refine (inverse_u8 (hor x V) _ HTE.out.1).mono ?_; rintro e w3 ⟨rfl, rfl⟩) | (go_at_call 146; refine (times_u8 (y ^^^ hor x P) (ginv (hor x V)) _ HTE.out.1).mono ?_; rintro e w3 ⟨rfl, rfl⟩))
        all_goals
          replace ht2 := undrewA ht2
          have s3 := turn_trans s2 ht2 (by omega)
          have hs3 := ht2.size
          have p1b := p1a.keep ht2 (by omega)
          have p2b := p2a.keep ht2 (by omega)
          have p3b := p3a.keep ht2 (by omega)
          have hq1 := cell_turn ht2 hq0 (by omega)
          generalize gmul (y ^^^ hor x P) (ginv (hor x V)) = f at *
          clear p1a p2a p3a s2 hq0 HS2 HTD2 ht ht2 HTE
          go_wp2_with (refine wpList_load_arr rfl 136 _ rfl (B + 1 + 1) 20 20 5 _ _ rfl p3b sizeCoef Tryd.underlying136 hV ?_)
          intro u hu
          replace hu := hu.out
          subst hu
          have p2c : ArrAt w2 (B + 1) 136 (mixK f P V 0) := by rw [mixK_zero]; exact p2b
          have hPV : P.length = V.length := by omega
          clear p2b
          go_wp2_with fail
          go_loopw [33] (fun j wr => ∃ m : Nat, m ≤ 20 ∧ j = .int .i64 m ∧ ArrAt wr (B + 1) 136 (mixK f P V m) ∧ ArrAt wr (B + 1 + 1) 136 V ∧ ArrAt wr B 136 (List.replicate 20 0) ∧ TurnIn 0 0 w wr ∧ wr.cell? ⟨Bp, 0, none⟩ = some (.int .u8 (x.toNat : Int)) ∧ Bp + 1 ≤ wr.heap.size)
            (fun j _ => 20 - (intOf j).toNat)
          case atStart => exact ⟨0, by omega, rfl, p2c, p3b, p1b, s3, hq1, by omega⟩
          case round =>
            obtain ⟨m, hm20, rfl, q2, q3, q1, s4, hq2, z6⟩ := hrel
            clear p2c p3b p1b s3 hq1 hs3 hs2
            by_cases hlt2 : m < 20
            · have hmi : (m : Int) < 20 := by omega
              have hmV : m < V.length := by omega
              have hmP : m < P.length := by omega
              have hcx := q2.cellAt (mixK_get f P V hPV m hmP)
              have hfr := q2.frozen m
              have htab := (HTA.out _ s4).1
              obtain ⟨c0, hc0⟩ : ∃ c0, c0 = V[m] := ⟨_, rfl⟩
              obtain ⟨m0, hm0⟩ : ∃ m0, m0 = P[m] := ⟨_, rfl⟩
              rw [← hm0] at hcx
              have HC := Lib.hid (stillA (times_u8 f c0 wr.drew (show Tab wr.drew from htab)))
              have hxor := xor_u8 m0 (gmul f c0)
              have hst := q2.set m (m0 ^^^ gmul f c0)
              rw [hm0, hc0, mixK_set f P V hPV m hmP hmV] at hst
              rw [← hm0, ← hc0] at hst
              have tst := turn_set wr (B + 1) m (.int .u8 ((m0 ^^^ gmul f c0).toNat : Int))
              have HST := Lib.hid hst
              have HQ1 := Lib.hid (q1.keep tst (by omega))
              have HQ3 := Lib.hid (q3.keep tst (by omega))
              have HS4 : Hid (TurnIn 0 0 w _) := turn_trans s4 tst (by have := HBE.out; omega)
              have HQ2 := Lib.hid (cell_keepA hq2 (by omega) tst (by omega))
              have HCC : Hid (c0 = V[m]) := hc0
              clear hst tst hm0 hc0 htab
              go_wp2_with (refine wpList_index_arr rfl 136 _ _ rfl V m 20 5 rfl rfl Tryd.underlying136 Tryd.underlying5 sizeByteA hV hmV ?_)
              intro u hu
              replace hu := hu.out
              rw [← HCC.out] at hu
              subst hu
              go_wp2_with fail
              refine wp_region_still_tail 8 (by kernel_rfl) (by kernel_rfl) ?_
              simp only [List.take_succ_cons, List.take_zero, List.drop_succ_cons, List.drop_zero]
              repeat (first | still_step | still_call (HC.out))
              refine wpStill_nil ?_
              go_wp2_with fail
              go_roundw
              case rel => exact ⟨m + 1, by omega, by go_num, HST.out, HQ3.out, HQ1.out, turn_drewA HS4.out, HQ2.out, by simp; omega⟩
              case measure => simp [intOf]; omega
            · obtain rfl : m = 20 := by omega
              have hmi : ¬ ((20 : Nat) : Int) < 20 := by omega
              have hend : mixK f P V 20 = addC f P V := mixK_end f P V hPV 20 (by omega)
              rw [hend] at q2
              clear hend
              go_wp2_with (refine wpList_load_arr rfl 136 _ rfl (B + 1 + 1) 20 20 5 _ _ rfl q3 sizeCoef Tryd.underlying136 hV ?_)
              intro u hu
              replace hu := hu.out
              subst hu
              go_wp2_with fail
              refine (withRoot_own V x _ hV (HTA.out _ s4).1 (HTA.out _ s4).2).mono ?_
              rintro e w5 ⟨rfl, ht5⟩
              have s5 := turn_trans s4 ht5 (by omega)
              have z7 := ht5.size
              replace q1 := q1.keep ht5 (by omega)
              replace q2 := q2.keep ht5 (by omega)
              replace q3 := q3.keep ht5 (by omega)
              have hWL : (wrC x V).length = 20 := by
                unfold wrC
                rw [addL_lenS _ _ (by rw [scaleL_lenS]; simp [hV])]; simp [hV]
              clear s4 ht5 hq2
              go_wp2_with (refine wpList_store_arr rfl 136 _ _ rfl (B + 1 + 1) 20 _ _ (wrC x V) rfl rfl q3 sizeCoef hV hWL ?_)
              intro W6 hW6
              replace hW6 := hW6.out
              have r6 := hW6 ▸ q3.row (wrC x V)
              have t6 := hW6 ▸ turn_row w5 (B + 1 + 1) (bys (wrC x V)).toArray
              have z8 : B + 1 + 1 + 1 ≤ W6.heap.size := by have := t6.size; omega
              replace q1 := q1.keep t6 (by omega)
              replace q2 := q2.keep t6 (by omega)
              replace s5 := turn_trans s5 t6 (by have := HBE.out; omega)
              clear hW6 q3 t6
              go_wp2_with fail
              go_roundw
              case rel => exact ⟨k + 1, by omega, by go_num, by rw [HNS.out]; exact q2, by rw [HNS.out]; exact r6, q1, s5, z8⟩
              case measure => simp [intOf]; omega
    · obtain rfl : k = n := by omega
      have hki : ¬ (k : Int) < (k : Int) := by omega
      have hTe := HTH.out
      rw [← hTe] at p2 hP
      clear hTe
      go_wp2_with (refine wpList_load_arr rfl 136 _ rfl (B + 1) 20 20 5 _ _ rfl p2 sizeCoef Tryd.underlying136 hP ?_)
      intro u hu
      replace hu := hu.out
      subst hu
      go_wp2_with (refine wpList_store_arr rfl 136 _ _ rfl B 20 _ _ (thr l) rfl rfl p1 sizeCoef (by simp) hP ?_)
      intro W5 hW5
      replace hW5 := hW5.out
      have r5 := hW5 ▸ p1.row (thr l)
      have t5 := hW5 ▸ turn_row wr B (bys (thr l)).toArray
      have hb6 : TurnIn 0 0 w W5 := turn_trans s1 t5 (by have := HBE.out; omega)
      clear hW5
      go_wp2_with fail
      exact bodyPost_ret (ret_arr rfl _ B 20 20 _ 5 _ rfl r5 Tryd.underlying136 sizeCoef hP) rfl ⟨rfl, hb6⟩

end Go.Proofs.YtgbhcjfnkjhkiaaDoor

/- Valid shares: the program's and the model's. -/
namespace G294
open Go Go.RowKit
theorem shr_bad {l : List Sr} {k : Nat} (hk : k < l.length) (h : ¬ prX l k < xF l k) : shrOk l = false := by
  cases e : shrOk l
  · rfl
  · exact absurd (((shrOk_iff l).1 e).2 k hk) h
theorem shr_many {l : List Sr} (h : 20 < l.length) : shrOk l = false := by
  cases e : shrOk l
  · rfl
  · exact absurd (shr_20 e) (by omega)
theorem shr_good {l : List Sr} (h20 : l.length ≤ 20) (h : ∀ i, i < l.length → prX l i < xF l i) : shrOk l = true := (shrOk_iff l).2 ⟨h20, h⟩
theorem prX_succ (l : List Sr) (k : Nat) : prX l (k + 1) = xF l k := by simp [prX]
theorem prX_zero (l : List Sr) : prX l 0 = 0 := rfl
theorem le_byte {x y : UInt8} : x.toNat ≤ y.toNat ↔ ¬ y < x := by rw [UInt8.lt_iff_toNat_lt]; omega
end G294
namespace Go.Proofs.YtgbhcjfnkjhkiaaDoor
open Go.RowKit G294

set_option maxRecDepth 100000 in
set_option maxHeartbeats 1000000 in
theorem goodShares_own (v : Value) (l : List Sr) (w : World) (hv : SeenR w v l) : Calls Tryd.prog 116 #[v] w (RetBool w (shrOk l)) := by
  obtain ⟨A, c, rfl, hlc, hcm, hx⟩ := hv
  unfold maxLen at hcm
  by_cases h20 : l.length ≤ 20
  · have HG := Lib.hid (shr_good h20)
    have HB := Lib.hid (fun k => @shr_bad l k)
    generalize hnn : l.length = n at *
    have HN := Lib.hid hnn
    clear hnn
    have hd : decide (20 < (n : Int)) = false := by simp; omega
    go_enter Tryd.func116, Tryd.ntmps116
    go_wp2_with fail
    go_loopw [3, 11] (fun q i wr => ∃ k : Nat, k ≤ n ∧ i = .int .i64 k ∧ q = .int .u8 ((prX l k).toNat : Int) ∧ Hid (∀ i, i < k → prX l i < xF l i) ∧ Below w.heap.size w wr)
      (fun _ i _ => n - (intOf i).toNat)
    case atStart => exact ⟨0, Nat.zero_le _, rfl, rfl, (fun _ h => by omega), Below.refl _ _⟩
    case round =>
      obtain ⟨k, hk, rfl, rfl, HE, hb⟩ := hrel
      by_cases hlt : k < n
      · obtain ⟨b, off, rfl, hbl, hcell⟩ := hx (by omega)
        obtain ⟨⟨no, s⟩, hks⟩ := at_ltR HN.out hlt
        have HXY := Lib.hid (at_xy hks)
        have hc1 := (hb.cell (p := ⟨b, off + k * 2, none⟩) hbl).trans (hcell k _ hks).1
        have hc2 := (hb.cell (p := ⟨b, off + k * 2 + 1, none⟩) hbl).trans (hcell k _ hks).2
        simp only at hc1 hc2
        have hki : (k : Int) < (n : Int) := by omega
        have hbs := hb.size
        have hb2 := hb.alloc hbs (.cells #[.int .u8 (no.toNat : Int), .int .u8 (s.toNat : Int)] 59)
        clear hcell hx hks
        by_cases hok : prX l k < no
        · have hd2 : ¬ no.toNat ≤ (prX l k).toNat := by rw [le_byte]; simpa using hok
          have HE2 : Hid (∀ i, i < k + 1 → prX l i < xF l i) := fun i hi => by
            rcases Nat.lt_or_ge i k with h' | h'
            · exact HE.out i h'
            · obtain rfl : i = k := by omega
              rw [← HXY.out.1]; exact hok
          have HPS : Hid (((prX l (k + 1)).toNat : Int) = (no.toNat : Int)) := by show _ = _; rw [prX_succ, ← HXY.out.1]
          clear hok
          go_wp2_with fail
          go_roundw
          case rel => exact ⟨k + 1, by omega, by go_num, by rw [HPS.out], HE2, hb2⟩
          case measure => simp [intOf]; omega
        · have hd2 : no.toNat ≤ (prX l k).toNat := le_byte.2 hok
          have HF : Hid (shrOk l = false) := HB.out k hlt (by rw [← HXY.out.1]; exact hok)
          clear hok
          go_wp2_with fail
          go_ret
          exact ⟨by rw [HF.out]; rfl, TurnIn.of_below hb2⟩
      · obtain rfl : k = n := by omega
        have hki : ¬ (k : Int) < (k : Int) := by omega
        have HF : Hid (shrOk l = true) := HG.out HE.out
        go_wp2_with fail
        go_ret
        exact ⟨by rw [HF.out]; rfl, TurnIn.of_below hb⟩
  · have HF := Lib.hid (shr_many (l := l) (by omega))
    generalize l.length = n at *
    have hd : decide (20 < (n : Int)) = true := by simp; omega
    go_enter Tryd.func116, Tryd.ntmps116
    go_wp2_with fail
    go_ret
    exact ⟨by rw [HF.out]; rfl, TurnIn.refl _⟩

set_option maxRecDepth 100000 in
set_option maxHeartbeats 2000000 in
theorem l7Shares_own (v : Value) (l : List Sr) (w : World) (hv : SeenR w v l) : Calls Tryd.prog 120 #[v] w (RetBool w (shrOk l)) := by
  obtain ⟨A, c, rfl, hlc, hcm, hx⟩ := hv
  unfold maxLen at hcm
  have HG := Lib.hid (@shr_good l)
  have HM := Lib.hid (@shr_many l)
  have HB := Lib.hid (fun k => @shr_bad l k)
  generalize hnn : l.length = n at *
  have HN := Lib.hid hnn
  clear hnn
  go_enter Tryd.func120, Tryd.ntmps120
  go_wp2_with fail
  go_loopw [7] (fun i wr => ∃ k : Nat, k ≤ n ∧ i = .int .i64 k ∧ Hid (∀ i, i < k → prX l i < xF l i) ∧ Below w.heap.size w wr)
    (fun i _ => n - (intOf i).toNat)
  case atStart => exact ⟨0, Nat.zero_le _, rfl, (fun _ h => by omega), Below.refl _ _⟩
  case round =>
    obtain ⟨k, hk, rfl, HE, hb⟩ := hrel
    by_cases hlt : k < n
    · obtain ⟨b, off, rfl, hbl, hcell⟩ := hx (by omega)
      obtain ⟨⟨no, s⟩, hks⟩ := at_ltR HN.out hlt
      have HXY := Lib.hid (at_xy hks)
      have hc1 := (hb.cell (p := ⟨b, off + k * 2, none⟩) hbl).trans (hcell k _ hks).1
      have hc2 := (hb.cell (p := ⟨b, off + k * 2 + 1, none⟩) hbl).trans (hcell k _ hks).2
      simp only at hc1 hc2
      have hki : (k : Int) < (n : Int) := by omega
      have hbs := hb.size
      have hb2 := hb.alloc hbs (.cells #[.int .u8 (no.toNat : Int), .int .u8 (s.toNat : Int)] 59)
      have HE2 : Hid (prX l k < no → ∀ i, i < k + 1 → prX l i < xF l i) := fun hok i hi => by
        rcases Nat.lt_or_ge i k with h' | h'
        · exact HE.out i h'
        · obtain rfl : i = k := by omega
          rw [← HXY.out.1]; exact hok
      have HF : Hid (¬ prX l k < no → shrOk l = false) := fun hok => HB.out k hlt (by rw [← HXY.out.1]; exact hok)
      by_cases hz : no = 0
      · have hd0 : ((no.toNat : Int) == 0) = true := by rw [hz]; rfl
        have HF2 := Lib.hid (HF.out (by rw [hz, UInt8.lt_iff_toNat_lt]; simp))
        clear hz hks hcell hx
        go_wp2_with fail
        go_quiet (fail)
        go_wp2_with fail
        go_ret
        exact ⟨by rw [HF2.out]; rfl, TurnIn.of_below (below_drewN hb2 _)⟩
      · have hd0 : ((no.toNat : Int) == 0) = false := by
          rw [beq_eq_false_iff_ne]; intro e; exact hz (UInt8.toNat_inj.1 (by simpa using e))
        by_cases hk0 : k = 0
        · subst hk0
          have hd1 : decide ((0 : Int) < ((0 : Nat) : Int)) = false := by simp
          simp only [Nat.zero_mul, Nat.add_zero] at hc1 hc2
          have HE3 := Lib.hid (HE2.out (by rw [prX_zero, UInt8.lt_iff_toNat_lt]; have : no.toNat ≠ 0 := fun e => hz (UInt8.toNat_inj.1 e); simp; omega))
          clear hz hks hcell hx
          go_wp2_with fail
          go_quiet (fail)
          go_wp2_with fail
          go_roundw
          case rel => exact ⟨0 + 1, by omega, by go_num, HE3.out, below_drewN hb2 _⟩
          case measure => simp [intOf]; omega
        · obtain ⟨j, rfl⟩ : ∃ j, k = j + 1 := ⟨k - 1, by omega⟩
          have hd1 : decide ((0 : Int) < ((j + 1 : Nat) : Int)) = true := by simp
          obtain ⟨⟨no', s'⟩, hks'⟩ := at_ltR HN.out (show j < n by omega)
          have HP : Hid (prX l (j + 1) = no') := by show _ = _; rw [prX_succ, ← (at_xy hks').1]
          have hc3 := (hb.cell (p := ⟨b, off + j * 2, none⟩) hbl).trans (hcell j _ hks').1
          simp only at hc3
          have hc4 : (wr.alloc (.cells #[.int .u8 (no.toNat : Int), .int .u8 (s.toNat : Int)] 59)).cell? ⟨b, off + j * 2, none⟩ = some (.int .u8 (no'.toNat : Int)) := cell_turn (turn_alloc _ _) hc3 (by omega)
          have hjj : ((j + 1 : Nat) : Int) - 1 = (j : Int) := by omega
          have hji : (j : Int) < (n : Int) := by omega
          by_cases hok : no' < no
          · have hd2 : decide (no.toNat ≤ no'.toNat) = false := by rw [decide_eq_false_iff_not, le_byte]; simpa using hok
            have HE3 := Lib.hid (HE2.out (by rw [HP.out]; exact hok))
            clear hz hks hcell hx hks' hok
            go_wp2_with fail
            go_quiet (fail)
            go_wp2_with fail
            go_roundw
            case rel => exact ⟨j + 1 + 1, by omega, by go_num, HE3.out, below_drewN hb2 _⟩
            case measure => simp [intOf]; omega
          · have hd2 : decide (no.toNat ≤ no'.toNat) = true := by rw [decide_eq_true_iff, le_byte]; exact hok
            have HF2 := Lib.hid (HF.out (by rw [HP.out]; exact hok))
            clear hz hks hcell hx hks' hok
            go_wp2_with fail
            go_quiet (fail)
            go_wp2_with fail
            go_ret
            exact ⟨by rw [HF2.out]; rfl, TurnIn.of_below (below_drewN hb2 _)⟩
    · obtain rfl : k = n := by omega
      have hki : ¬ (k : Int) < (k : Int) := by omega
      by_cases h20 : k ≤ 20
      · have HF : Hid (shrOk l = true) := HG.out h20 HE.out
        have hd : decide ((k : Int) ≤ 20) = true := by simp; omega
        go_wp2_with fail
        go_ret
        exact ⟨by rw [HF.out]; rfl, TurnIn.of_below hb⟩
      · have HF : Hid (shrOk l = false) := HM.out (by omega)
        have hd : decide ((k : Int) ≤ 20) = false := by simp; omega
        go_wp2_with fail
        go_ret
        exact ⟨by rw [HF.out]; rfl, TurnIn.of_below hb⟩

set_option maxHeartbeats 400000 in
theorem goodRandom_any (v : Value) (l : List UInt8) (w : World) (hv : Seen w v (bys l)) :
    Calls Tryd.prog 112 #[v] w fun e w' => e = .returned (.bool (decide (l.length ≤ 8))) ∧ w = w' := by
  obtain ⟨A, c, rfl, hlc, hcm, hx⟩ := hv
  simp only [bys_length] at hlc ⊢
  unfold maxLen at hcm
  clear hx
  generalize l.length = n at *
  go_enter Tryd.func112, Tryd.ntmps112
  go_wp2_with fail
  go_ret
  exact ⟨by simp; omega, rfl⟩

end Go.Proofs.YtgbhcjfnkjhkiaaDoor
