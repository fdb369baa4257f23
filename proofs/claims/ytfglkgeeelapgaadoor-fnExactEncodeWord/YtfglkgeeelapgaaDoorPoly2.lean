/- valueAt and PolyAt: the program's. -/
import Derived.Test.YtfglkgeeelapgaaDoorPoly1
set_option linter.unusedSimpArgs false
set_option linter.unusedVariables false
namespace Go.Proofs.YtfglkgeeelapgaaDoor
open Go.RowKit Go.Shelf G294

attribute [local go_sem] Oper.semAt_some

set_option maxRecDepth 100000 in
set_option maxHeartbeats 4000000 in
theorem valueAt_own (v : Value) (l : List UInt8) (x : UInt8) (w : World) (hv : Seen w v (bys l)) (hl : l.length ≤ 1000) (ht : Tab w) (h0 : 2 < w.heap.size) :
    Calls Tryd.prog 96 #[v, .int .u8 (x.toNat : Int)] w (RetByte w (hor x l)) := by
  have HV := Lib.hid hv
  obtain ⟨A, cp, hvv⟩ := hv.len
  rw [bys_length] at hvv
  subst hvv
  have HT := Lib.hid ht
  have HH := Lib.hid (hacc_rev x l)
  clear ht hv
  have a1 := turn_alloc w (.cells #[.int .u8 (x.toNat : Int)] 5)
  have z1 := World.size_alloc w (.cells #[.int .u8 (x.toNat : Int)] 5)
  have bX0 := Boxed.new w 5 (.int .u8 (x.toNat : Int))
  refine (callsIn_wide (n := 5)).1 ?_
  refine callsIn_of_wp_marks Tryd.func96 rfl trivial ?_ rfl
  simp only [Tryd.ntmps96, List.size_toArray, List.length_cons, List.length_nil, Nat.reduceAdd, Nat.reduceSub, Array.replicate_succ, Array.replicate_zero, List.push_toArray, List.append_toArray, List.nil_append, List.cons_append]
  gi_wp2_with fail
  refine ⟨trivial, ?_⟩
  refine (callsIn_wide.2 (backward_any _ _ _ _)).mono ?_
  rintro e w' ⟨rfl, rfl⟩
  gi_wp2_with fail
  generalize hBe : w.heap.size = B at *
  obtain ⟨W0, hW0⟩ : ∃ W0, W0 = (((w.alloc (.cells #[.int .u8 (x.toNat : Int)] 5)).alloc (.cells #[.int .u8 0] 5)).alloc (.cells #[.slice A l.length cp] 22)) := ⟨_, rfl⟩
  have bX : Boxed W0 B 5 (.int .u8 (x.toNat : Int)) := by rw [hW0]; exact (bX0.alloc _).alloc _
  have bV : Boxed W0 (B + 1) 5 (.int .u8 ((hacc x []).toNat : Int)) := by
    have := (Boxed.new (w.alloc (.cells #[.int .u8 (x.toNat : Int)] 5)) 5 (.int .u8 0)).alloc (.cells #[.slice A l.length cp] 22)
    rw [z1] at this; rw [hW0]; exact this
  have bS : Boxed W0 (B + 1 + 1) 22 (.slice A l.length cp) := by
    have := Boxed.new ((w.alloc (.cells #[.int .u8 (x.toNat : Int)] 5)).alloc (.cells #[.int .u8 0] 5)) 22 (.slice A l.length cp)
    rw [World.size_alloc, z1] at this; rw [hW0]; exact this
  have hsz : W0.heap.size = B + 3 := by rw [hW0]; simp [hBe]
  have k0 : TurnIn 0 0 w W0 := by
    rw [hW0]; exact turn_trans (turn_trans (turn_alloc _ _) (turn_alloc _ _) (by omega)) (turn_alloc _ _) (by omega)
  have hB0 : Below B w W0 := hBe ▸ k0.to_below
  rw [← hW0]
  have HINV : Hid (∀ W W', KeepBut (B + 3) (B + 1) W0 W → (KeepBut (B + 3) (B + 1) W W' ∨ Below W.heap.size W W') → KeepBut (B + 3) (B + 1) W0 W') := fun W W' h h' => by
    rcases h' with h' | h'
    · exact h.trans h'
    · exact h.trans (KeepBut.of_below (h'.mono (by have := h.size; omega)))
  have HB0 := Lib.hid hB0
  have HBE := Lib.hid hBe
  have HTB : Hid (∀ W, Below B w W → Tab W) := fun W h => HT.out.below (HBE.out.symm ▸ h) (by rw [HBE.out]; exact h0)
  clear hW0 k0 a1 z1 bX0 hBe
  refine wpIn_rangeFunc_ownH rfl (by omega) (gf := 141) (lb := #[.pointer (some ⟨B + 1 + 1, 0, none⟩)]) rfl trivial (enters_of Tryd.func141 (by kernel_rfl) rfl)
    (backward_stops _ (B + 1 + 1) l (.slice A l.length cp) W0 (KeepBut (B + 3) (B + 1)) (KeepBut (B + 3) (B + 1) W0) hl
      (fun W hW => ⟨(hW.cell (by omega) (by omega)).trans bS.cell, HV.out.below (HBE.out.symm ▸ hW.below HB0.out (by omega) (by omega))⟩)
      (fun W W' h h' => HINV.out W W' h (.inl h')) (fun W W' h h' => HINV.out W W' h (.inr h')) (fun W h => KeepBut.of_below (h.mono (by omega))) (by omega))
    (fun h h' => h.trans h') (KeepBut.putObj (by omega)) (Below.refl _ _) (fun _ => rfl)
    (fun pre W => Boxed W (B + 1) 5 (.int .u8 ((hacc x pre).toNat : Int)) ∧ Boxed W B 5 (.int .u8 (x.toNat : Int)) ∧ Below B w W ∧ B + 3 ≤ W.heap.size)
    (fun _ _ _ => False)
    (OwnFrom.and (Own.from (boxed_own (B + 1) 5 (fun pre : List (Nat × UInt8) => .int .u8 ((hacc x pre).toNat : Int))) _) (OwnFrom.and (Own.from (boxed_own B 5 (fun pre : List (Nat × UInt8) => .int .u8 (x.toNat : Int))) _) (OwnFrom.and (ownFrom_below (by have := HBE.out; omega) (by omega)) (fun s X Y row hs hg hr => Nat.le_trans hs hg.size))))
    (fun _ _ _ _ _ hs _ _ => hs)
    ⟨bV, bX, HB0.out, by omega⟩
    (fun c a' W => a' = { tmps := #[.slice A l.length cp, .int .u8 (x.toNat : Int), undef, .pointer (some ⟨B, 0, none⟩), .int .u8 0, .pointer (some ⟨B + 1, 0, none⟩), undef, .int .u8 (c.2.toNat : Int),
      .slice A l.length cp, .func (.func 141) #[] #[.pointer (some ⟨B + 1 + 1, 0, none⟩)], .int .i64 (c.1 : Int), .int .u8 (c.2.toNat : Int), undef, undef, undef, undef, undef, undef], defers := [] })
    (fun x a' _ X Y row hs hg hr => hs)
    ?assign ?body ?done ?stop
  case assign =>
    rintro lp pre c W K ⟨hv, hx, hBw, hn0⟩ hK
    simp only [bkV]
    gi_wp2_with fail
    exact hK _ _ ((KeepsOthers.refl _).from _) (KeepBut.refl _ _ _) ⟨hv, hx, hBw, hn0⟩ rfl
  case body =>
    rintro lp pre c a' W hlp ⟨rr, hr⟩ ⟨hv, hx, hBw, hn0⟩ rfl hlt
    obtain ⟨ix, cc⟩ := c
    have hcv := hv.cell
    have hcx := hx.cell
    have hfv := hv.frozen
    have hset := hv.set (.int .u8 ((hacc x (pre ++ [(ix, cc)])).toNat : Int))
    have hx2 : Boxed (W.setCell ⟨B + 1, 0, none⟩ (.int .u8 ((hacc x (pre ++ [(ix, cc)])).toNat : Int))) B 5 (.int .u8 (x.toNat : Int)) := hx.kept (grownBy_setCell' W (B + 1) _) (by simp)
    have hk2 := KeepsOthers.setCell W ⟨B + 1, 0, none⟩ (.int .u8 ((hacc x (pre ++ [(ix, cc)])).toNat : Int))
    have hb2 : KeepBut (B + 3) (B + 1) W (W.setCell ⟨B + 1, 0, none⟩ (.int .u8 ((hacc x (pre ++ [(ix, cc)])).toNat : Int))) := by
      have hg := grownBy_setCell' W (B + 1) (.int .u8 ((hacc x (pre ++ [(ix, cc)])).toNat : Int))
      exact ⟨hg.os, hg.tape, hg.output, hg.size, fun k hk hne => hg.block k (by omega) (fun e => hne (by cases e; rfl))⟩
    have hB2 := hb2.below hBw (by omega) (by omega)
    have HX := Lib.hid (xor_u8 (gmul (hacc x pre) x) cc)
    have HS := Lib.hid (hacc_snoc x pre (ix, cc))
    have HTW := Lib.hid (HTB.out W hBw)
    rw [HS.out, ← HX.out] at hset hx2 hk2 hb2 hB2
    have HSET := Lib.hid hset
    have HX2 := Lib.hid hx2
    have HK2 := Lib.hid hk2
    have HKB := Lib.hid hb2
    have HBB := Lib.hid hB2
    clear hset hx2 hk2 hb2 hB2
    simp only
    gi_wp2_with fail
    refine ⟨trivial, ?_⟩
    refine (callsIn_wide.2 (times_u8 _ _ _ HTW.out)).mono ?_
    rintro e w' ⟨rfl, rfl⟩
    gi_wp2_with fail
    exact ⟨HK2.out.from _, HKB.out, by rw [HS.out, ← HX.out]; exact HSET.out, HX2.out, HBB.out, by simp; omega⟩
  case done =>
    rintro D ys W hD rfl ⟨hv, hx, hBw, hn0⟩ hK
    have hc := hv.cell
    rw [HH.out] at hc
    gi_wp2_with fail
    refine ⟨by simp, .inl ⟨_, _, rfl, run_takeDeferred hK, ?_⟩⟩
    have hBe := (HBE.out ▸ hBw : Below w.heap.size w W).trans (belowK_b (w := w) (Nat.le_refl _) W D _ (.deferred none) (by have := HBE.out; omega) hK rfl rfl)
    exact ⟨_, results_tmp rfl _ _ _, rfl, TurnIn.of_below hBe⟩
  case stop =>
    rintro D c pre W _ _ h _
    exact h.elim

end Go.Proofs.YtfglkgeeelapgaaDoor
