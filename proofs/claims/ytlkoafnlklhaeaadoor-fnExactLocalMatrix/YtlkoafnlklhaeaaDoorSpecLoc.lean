/- LocalMatrix, the model's. -/
import Derived.Test.YtlkoafnlklhaeaaDoorLocMat
set_option linter.unusedSimpArgs false
set_option linter.unusedVariables false
namespace G294
open Go Go.RowKit
/-- the row of the group that begins at z, after i of its ones -/
def onesP (z i : Nat) (j : Nat) : UInt8 := if z ≤ j ∧ j < z + i then 1 else 0
theorem onesP_zero (d z : Nat) : bys (mkRow d (onesP z 0)) = List.replicate d (.int .u8 0) := by
  refine List.ext_getElem (by simp [bys]) fun i h1 h2 => ?_
  have : onesP z 0 i = 0 := by unfold onesP; rw [if_neg (by omega)]
  simp [bys, mkRow, this]
theorem onesP_succ (d z i : Nat) : mkRow d (fun j => if j = z + i then 1 else onesP z i j) = mkRow d (onesP z (i + 1)) := mkRow_congr fun j _ => by
  unfold onesP
  by_cases h : j = z + i
  · rw [if_pos h, if_pos (by omega)]
  · rw [if_neg h]
    by_cases h2 : z ≤ j ∧ j < z + i
    · rw [if_pos h2, if_pos (by omega)]
    · rw [if_neg h2, if_neg (by omega)]
end G294
namespace Go.Proofs.YtlkoafnlklhaeaaDoor
open Go.RowKit Go.Maps G294

set_option maxRecDepth 100000 in
set_option maxHeartbeats 4000000 in
theorem l4Matrix_own (g e q d : Nat) (w : World) (hg : 1 ≤ g ∧ g ≤ 4) (he : 1 ≤ e ∧ e ≤ 4) (hq : 1 ≤ q ∧ q ≤ 4) (hd : 1 ≤ d ∧ d ≤ 8) (HDE : Hid (g * e = d)) :
    Calls Tryd.prog 102 #[locV g e q] w (RetMat 5 24 w (locM g e q)) := by
  obtain ⟨i0, hi0, hz0', hz1, hz2⟩ := info_parts infoByte
  have hb0 : TurnIn 0 0 w ((w.alloc (.cells #[.int .i64 g, .int .i64 e, .int .i64 q] 73)).alloc (.cells #[.slice none 0 0] 70)) := turn_trans (turn_alloc _ _) (turn_alloc _ _) (by omega)
  have hz0 : ((w.alloc (.cells #[.int .i64 g, .int .i64 e, .int .i64 q] 73)).alloc (.cells #[.slice none 0 0] 70)).heap.size = w.heap.size + 2 := by simp
  have cR : ((w.alloc (.cells #[.int .i64 g, .int .i64 e, .int .i64 q] 73)).alloc (.cells #[.slice none 0 0] 70)).cell? ⟨w.heap.size + 1, 0, none⟩ = some (.slice none 0 0) := by simp
  have fR : ((w.alloc (.cells #[.int .i64 g, .int .i64 e, .int .i64 q] 73)).alloc (.cells #[.slice none 0 0] 70)).frozen? ⟨w.heap.size + 1, 0, none⟩ = false := by simp
  have cg : ((w.alloc (.cells #[.int .i64 g, .int .i64 e, .int .i64 q] 73)).alloc (.cells #[.slice none 0 0] 70)).cell? ⟨w.heap.size, 0, none⟩ = some (.int .i64 g) := cell_turn (turn_alloc _ _) (alloc_tri0 _ _ _ _ _) (alloc_lt _ _)
  have ce : ((w.alloc (.cells #[.int .i64 g, .int .i64 e, .int .i64 q] 73)).alloc (.cells #[.slice none 0 0] 70)).cell? ⟨w.heap.size, 1, none⟩ = some (.int .i64 e) := cell_turn (turn_alloc _ _) (alloc_tri1 _ _ _ _ _) (alloc_lt _ _)
  have cq : ((w.alloc (.cells #[.int .i64 g, .int .i64 e, .int .i64 q] 73)).alloc (.cells #[.slice none 0 0] 70)).cell? ⟨w.heap.size, 2, none⟩ = some (.int .i64 q) := cell_turn (turn_alloc _ _) (alloc_tri2 _ _ _ _ _) (alloc_lt _ _)
  have HGE : Hid ((g : Int) * (e : Int) = (d : Int)) := by show _ = _; rw [← Int.natCast_mul, HDE.out]
  obtain ⟨hg1, hg2⟩ := hg
  obtain ⟨he1, he2⟩ := he
  obtain ⟨hq1, hq2⟩ := hq
  obtain ⟨hd1, hd2⟩ := hd
  go_enter Tryd.func102, Tryd.ntmps102
  go_wp2_with fail
  refine (l4Data_any (g : Int) (e : Int) (q : Int) _ (by rw [HGE.out]; omega)).mono ?_
  rintro e' w2 ⟨rfl, k2⟩
  rw [HGE.out]
  have s2 := k2.size
  replace cR := cell_turn k2 cR (by omega)
  replace fR := frozen_turn k2 fR (by omega)
  replace cg := cell_turn k2 cg (by omega)
  replace ce := cell_turn k2 ce (by omega)
  replace cq := cell_turn k2 cq (by omega)
  go_wp2_with fail
  refine (l2Identity_own d _ hd1 (by omega)).mono ?_
  rintro e' w3 ⟨v3, vs3, rfl, hM3, k3⟩
  obtain ⟨A3, n3, c3, rfl⟩ := hM3.isSlice
  have s3 := k3.size
  have hMB := MatBox.new hM3 70
  have a3 := turn_alloc w3 (.cells #[.slice A3 n3 c3] 70)
  have z3 := World.size_alloc w3 (.cells #[.slice A3 n3 c3] 70)
  have k4 := turn_trans k3 a3 (by omega)
  replace cR := cell_turn k4 cR (by omega)
  replace fR := frozen_turn k4 fR (by omega)
  replace cg := cell_turn k4 cg (by omega)
  replace ce := cell_turn k4 ce (by omega)
  replace cq := cell_turn k4 cq (by omega)
  have HT06 : Hid (TurnIn 0 0 w (w3.alloc (.cells #[.slice A3 n3 c3] 70))) := turn_trans (turn_trans hb0 k2 (by omega)) k4 (by omega)
  have hI0 : LocInv 5 24 w2.heap.size w3.heap.size (w3.alloc (.cells #[.slice A3 n3 c3] 70)) (locP d e g 0) (.slice A3 n3 c3) vs3 (w3.alloc (.cells #[.slice A3 n3 c3] 70)) := ⟨(locP_zero d e g) ▸ hMB, ⟨rfl, rfl, rfl, Nat.le_refl _, fun _ _ _ => rfl⟩, fun x hx => .inl (hM3.out x hx)⟩
  have HI0 := Lib.hid hI0
  have hw2 : w.heap.size + 2 ≤ w2.heap.size := by omega
  have cB0 := hMB.cell
  clear hI0 hMB hM3 k2 k3 k4 a3 hz0 hb0
  go_wp2_with fail
  generalize hw6 : (w3.alloc (.cells #[.slice A3 n3 c3] 70)) = w6 at *
  generalize hlo : w2.heap.size = lo at *
  generalize hBB : w3.heap.size = B at *
  have hz6 : B < w6.heap.size := by omega
  clear cB0 hw6 z3
  go_loopw [5] (fun i wr => ∃ k : Nat, k ≤ g ∧ i = .int .i64 k ∧ ∃ v vs, Hid (LocInv 5 24 lo B w6 (locP d e g k) v vs wr)) (fun i _ => g - (intOf i).toNat)
  case atStart => exact ⟨0, Nat.zero_le _, rfl, _, _, HI0⟩
  case round =>
    obtain ⟨k, hk, rfl, v, vs, HI⟩ := hrel
    clear HI0
    have hs := HI.out.turn.size
    have tq := HI.out.turn
    have cgr := cell_keepT cg (show w.heap.size < w6.heap.size by omega) tq (by omega)
    have cer := cell_keepT ce (show w.heap.size < w6.heap.size by omega) tq (by omega)
    have cqr := cell_keepT cq (show w.heap.size < w6.heap.size by omega) tq (by omega)
    have cRr := cell_keepT cR (show w.heap.size + 1 < w6.heap.size by omega) tq (by omega)
    have fRr : wr.frozen? ⟨w.heap.size + 1, 0, none⟩ = false := by
      have e := tq.block (w.heap.size + 1) (by omega) (by omega)
      unfold World.frozen? at fR ⊢
      rw [e]; exact fR
    have hcB := HI.out.box.cell
    have hfB := HI.out.box.fro
    have hlow : ∀ x, v.ownBlock = some x → lo ≤ x := fun x e => (HI.out.box.own.row.lt x e).1
    obtain ⟨Av, nv, cv, rfl⟩ := HI.out.box.own.isSlice
    have hneB : (Value.slice Av nv cv).ownBlock ≠ some B := HI.out.box.ne
    by_cases hlt : k < g
    · have hki : (k : Int) < (g : Int) := by omega
      have HSU := Lib.hid (locP_succ d e g k hlt)
      have hpl : (locP d e g k).length = d + k := by simp [locP]
      have HROW0 : Hid (wr.ownsRow lo 24 1 (.slice Av nv cv) (d + k) vs) := by have := HI.out.box.own.row; rw [hpl] at this; exact this
      have HPL := Lib.hid hpl
      obtain ⟨z, hz⟩ : ∃ z, z = k * e := ⟨_, rfl⟩
      have hze : z + e ≤ d := by
        rw [hz, ← HDE.out, ← Nat.succ_mul]; exact Nat.mul_le_mul_right _ hlt
      have hmu : (k : Int) * (e : Int) = (z : Int) := by rw [hz]; simp
      have HZ := Lib.hid hz
      clear hpl hz
      generalize wr = wo at *
      go_wp2_with (at_make; refine wpList_make_full _ rfl _ _ _ rfl wo.heap.size _ i0 _ 1 Tryd.underlying24 hi0 hz0' hz1 _ _ _ _ d rfl rfl rfl rfl ?b2 ?b3 ?b4 ?_)
      case b2 => rw [hz2]; omega
      case b3 => unfold maxLen; omega
      case b4 => exact Nat.le_refl _
      intro w4 hown4 hg4
      have hb4 : Below wo.heap.size wo w4 := below_of_grown hg4 (Nat.le_refl _) (by simp)
      rw [toList_madeCells_one] at hown4
      have HO4 : Hid (w4.ownsRow wo.heap.size 5 1 (.slice (some ⟨wo.heap.size, 0, none⟩) d d) d (bys (mkRow d (onesP z 0)))) := by show World.ownsRow _ _ _ _ _ _ _; rw [onesP_zero]; exact hown4
      clear hg4 hown4
      go_wp2_with fail
      go_loopw [7] (fun i wq => ∃ m : Nat, m ≤ e ∧ i = .int .i64 m ∧ wq.ownsRow wo.heap.size 5 1 (.slice (some ⟨wo.heap.size, 0, none⟩) d d) d (bys (mkRow d (onesP z m))) ∧ Below wo.heap.size wo wq)
        (fun i _ => e - (intOf i).toNat)
      case atStart => exact ⟨0, Nat.zero_le _, rfl, HO4.out, hb4⟩
      case round =>
        clear HO4 hb4
        obtain ⟨m, hm, rfl, hown, hb⟩ := hrel
        have hbs := hb.size
        have cerq := (hb.cell (p := ⟨w.heap.size, 1, none⟩) (show w.heap.size < wo.heap.size by omega)).trans cer
        by_cases hltm : m < e
        · have hmi : (m : Int) < (e : Int) := by omega
          have hzi : (z : Int) + (m : Int) < (d : Int) := by omega
          have hzn : z + m < d := by omega
          have hz0i : (0 : Int) ≤ (z : Int) + (m : Int) := by omega
          have hcast : ((z : Int) + (m : Int)).toNat = z + m := by omega
          obtain ⟨old, hold⟩ : ∃ y, (bys (mkRow d (onesP z m)))[z + m]? = some y := ⟨_, List.getElem?_eq_getElem (by simp [bys]; exact hzn)⟩
          have hco : wr.cell? ⟨wo.heap.size, z + m, none⟩ = some old := by rw [hown.cellAt (z + m) (by omega)]; exact hold
          have hfr := hown.frozenAt (z + m)
          have hst := (hown.stored (z + m) (.int .u8 ((1 : UInt8).toNat : Int))).1
          rw [bys_set1, mkRow_set] at hst
          have HST : Hid ((wr.setCell ⟨wo.heap.size, z + m, none⟩ (.int .u8 1)).ownsRow wo.heap.size 5 1 (.slice (some ⟨wo.heap.size, 0, none⟩) d d) d (bys (mkRow d (onesP z (m + 1))))) := by
            show World.ownsRow _ _ _ _ _ _ _
            rw [← onesP_succ]; exact hst
          clear hst hold
          go_wp2_with fail
          go_roundw
          case rel => exact ⟨m + 1, by omega, by go_num, HST.out, hb.setCell (Nat.le_refl _) _⟩
          case measure => simp [intOf]; omega
        · obtain rfl : m = e := by omega
          have hmi : ¬ (m : Int) < (m : Int) := by omega
          have k7 := TurnIn.of_below hb
          have HU : Hid (OwnBytes 5 wr wo.heap.size wr.heap.size (.slice (some ⟨wo.heap.size, 0, none⟩) d d) (mkRow d (onesF k m))) := by
            have e1 : mkRow d (onesP z m) = mkRow d (onesF k m) := mkRow_congr fun j _ => by unfold onesP onesF; rw [HZ.out]
            rw [e1] at hown
            exact ⟨by rw [mkRow_length]; exact hown, Nat.le_refl _, fun x hx => (hown.lt x hx).2⟩
          have a8 := turn_alloc wr (.cells #[.slice (some ⟨wo.heap.size, 0, none⟩) d d] 24)
          have z8 := World.size_alloc wr (.cells #[.slice (some ⟨wo.heap.size, 0, none⟩) d d] 24)
          have c8 := alloc_cell wr (.slice (some ⟨wo.heap.size, 0, none⟩) d d) 24
          have k8 := turn_trans k7 a8 (by omega)
          have hcB7 := cell_turn k7 hcB (by omega)
          have hcB8 := cell_turn k8 hcB (by omega)
          have HROW := Lib.hid (owns_turn HROW0.out (fun x e => HI.out.box.own.out x e) k8 (by omega))
          have HC8 := Lib.hid c8
          have HU8 := Lib.hid ((HU.out.keep a8 (by omega)).wider (Nat.le_refl _) (show wr.heap.size ≤ wr.heap.size + 1 by omega) (by omega))
          clear c8 hown
          go_wp2_with (at_builtin; refine wpList_append1 rfl _ _ _ rfl lo 24 _ _ Tryd.underlying68 infoRowB rfl _ (d + k) vs rfl HROW.out wr.heap.size (.slice (some ⟨wo.heap.size, 0, none⟩) d d) rfl HC8.out rfl ?f2 ?f3 ?f4 ?_)
          case f2 => omega
          try (case f3 => omega)
          case f4 => omega
          intro v9 w9 hown9 hg9 hv9
          obtain ⟨A9, n9, c9, rfl⟩ := own_isSlice hown9
          have s9 := hg9.size
          have hcB9 : w9.cell? ⟨B, 0, none⟩ = some (.slice Av nv cv) := (cell_past k8 hg9 hneB (by omega) 0).trans hcB
          have hfB9 : w9.frozen? ⟨B, 0, none⟩ = false := (frozen_past k8 hg9 hneB (by omega) 0).trans hfB
          have HIN : Hid (LocInv 5 24 lo B w6 (locP d m g (k + 1)) (.slice A9 n9 c9) (vs ++ [.slice (some ⟨wo.heap.size, 0, none⟩) d d]) (w9.setCell ⟨B, 0, none⟩ (.slice A9 n9 c9))) := by
            have := HI.out.next k8 HU8.out (by omega) (by omega) (by omega) (by omega) (by rw [HPL.out]; exact hown9) hg9 (by first | exact hv9 | (rw [z8]; exact hv9))
            rw [← HSU.out] at this; exact this
          clear hown9 hg9 hv9
          go_wp2_with fail
          go_roundw
          case rel => exact ⟨k + 1, by omega, by go_num, _, _, HIN⟩
          case measure => simp [intOf]; omega
    · obtain rfl : k = g := by omega
      have hki : ¬ (k : Int) < (k : Int) := by omega
      have hbr : Below w.heap.size w wr := tq.base HT06.out.to_below (by omega) (by omega)
      have hneR : (Value.slice Av nv cv).ownBlock ≠ some (w.heap.size + 1) := fun e => by have := hlow _ e; omega
      have hneL : (Value.slice Av nv cv).ownBlock ≠ some w.heap.size := fun e => by have := hlow _ e; omega
      have hpl : (locP d e k k).length = d + k := by simp [locP]
      have HROW0 : Hid (wr.ownsRow lo 24 1 (.slice Av nv cv) (d + k) vs) := by have := HI.out.box.own.row; rw [hpl] at this; exact this
      have HPL := Lib.hid hpl
      have HLE := Lib.hid (locM_eq k e q)
      rw [HDE.out] at HLE
      have hfd : ∀ (W : World) (x : Value), (Instr.field 70 (.agg #[x]) 0).run Tryd.prog W = .ok x W := fun W x => by simp [go_sem, Instr.field, asAgg, run_underlying Tryd.underlying70]
      clear cR fR cq cg ce hpl
      go_wp2_with fail
      have hS : (fun W : World => W.cell? ⟨B, 0, none⟩ = some (.slice Av nv cv) ∧ W.cell? ⟨w.heap.size, 2, none⟩ = some (.int .i64 q)) wr.drew := ⟨hcB, cqr⟩
      refine wp_region_tail (fun W : World => W.cell? ⟨B, 0, none⟩ = some (.slice Av nv cv) ∧ W.cell? ⟨w.heap.size, 2, none⟩ = some (.int .i64 q)) 9 (by kernel_rfl) ?_
      refine wpAnyT_take (i := 0) (oi := _) (v := ?v0) rfl (by kernel_rfl) (by kernel_rfl) (by kernel_rfl) (by kernel_rfl) (fun _ _ _ h => h) (Or.inl ⟨by rfl, ?hy0⟩) hS ?rest0
      case hy0 => (intro W hW; obtain ⟨e1, e2⟩ := hW; go_simp; try with_reducible rfl)
      simp only [Act.put, List.setIfInBounds_toArray, List.set_cons_zero, List.set_cons_succ]
      refine wpAnyT_take (i := 1) (oi := _) (v := ?v1) rfl (by kernel_rfl) (by kernel_rfl) (by kernel_rfl) (by kernel_rfl) (fun _ _ _ h => h) (Or.inl ⟨by rfl, ?hy1⟩) hS ?rest1
      case hy1 => (intro W hW; obtain ⟨e1, e2⟩ := hW; go_simp; try with_reducible rfl)
      simp only [Act.put, List.setIfInBounds_toArray, List.set_cons_zero, List.set_cons_succ]
      refine wpAnyT_take (i := 2) (oi := _) (v := ?v2) rfl (by kernel_rfl) (by kernel_rfl) (by kernel_rfl) (by kernel_rfl) (fun _ _ _ h => h) (Or.inl ⟨by rfl, ?hy2⟩) hS ?rest2
      case hy2 => (intro W hW; obtain ⟨e1, e2⟩ := hW; go_simp; try with_reducible rfl)
      simp only [Act.put, List.setIfInBounds_toArray, List.set_cons_zero, List.set_cons_succ]
      refine wpAnyT_take (i := 3) (oi := _) (v := ?v3) rfl (by kernel_rfl) (by kernel_rfl) (by kernel_rfl) (by kernel_rfl) (fun _ _ _ h => h) (Or.inl ⟨by rfl, ?hy3⟩) hS ?rest3
      case hy3 => (intro W hW; obtain ⟨e1, e2⟩ := hW; go_simp; try with_reducible rfl)
      simp only [Act.put, List.setIfInBounds_toArray, List.set_cons_zero, List.set_cons_succ]
      refine wpAnyT_take (i := 4) (oi := _) (v := ?v4) rfl (by kernel_rfl) (by kernel_rfl) (by kernel_rfl) (by kernel_rfl) (fun _ _ _ h => h) (Or.inl ⟨by rfl, ?hy4⟩) hS ?rest4
      case hy4 => (intro W hW; obtain ⟨e1, e2⟩ := hW; go_simp; try with_reducible rfl)
      simp only [Act.put, List.setIfInBounds_toArray, List.set_cons_zero, List.set_cons_succ]
      refine wpAnyT_one (i := 5) (o := _) rfl (by kernel_rfl) (fun K hK => ?_)
      go_simp
      refine (l2Cauchy_own q d _ hq1 hd1 (by omega) (by omega)).mono ?_
      rintro e' w7 ⟨v7, vs7, rfl, hM7, k7⟩
      replace k7 := undrew k7
      replace hM7 : OwnM 5 24 w7 wr.heap.size w7.heap.size v7 (mkM q d (cauF d)) vs7 := hM7
      obtain ⟨g7, cp7, rfl, hg7, hg7', hcp7, hcp7'⟩ := hM7.sliceF (by omega)
      have s7 := k7.size
      have hyl : vs7.length = q := by have := hM7.vlen; simpa using this
      have HROW := Lib.hid (owns_turn HROW0.out (fun x e => HI.out.box.own.out x e) k7 (by omega))
      have HYS : Hid (∀ j y, vs7[j]? = some y → w7.cell? ((⟨g7, 0, none⟩ : Addr).add j) = some y) := fun j y hj => by rw [Addr.add_lit, Nat.zero_add]; exact hM7.cellAt hj
      have HY1 := Lib.hid (rows_oneC hM7)
      have HM7 := Lib.hid hM7
      clear hM7
      refine hK.out _ _ (fun _ => ⟨cell_turn k7 hcB (by omega), cell_turn k7 cqr (by omega)⟩) ?_
      clear hK K hS
      try simp only [Act.put, List.setIfInBounds_toArray, List.set_cons_zero, List.set_cons_succ]
      refine wpAnyT_one (i := 6) (o := _) rfl (by kernel_rfl) (fun K hK => ?_)
      go_simp
      refine hK.out _ _ (fun _ => ⟨cell_turn k7 hcB (by omega), cell_turn k7 cqr (by omega)⟩) ?_
      clear hK K
      try simp only [Act.put, List.setIfInBounds_toArray, List.set_cons_zero, List.set_cons_succ]
      refine wpAnyT_one (i := 7) (o := _) rfl (by kernel_rfl) (fun K hK => ?_)
      refine step_appendN (by rfl) _ _ _ (by rfl) lo 24 _ _ Tryd.underlying68 infoRowB rfl _ (d + k) vs (by rfl) HROW.out ⟨g7, 0, none⟩ q cp7 vs7 (by rfl) hyl HYS.out HY1.out (by omega) (by omega) (by omega) ?_
      intro v9 w9 hown9 hg9 hv9
      obtain ⟨A9, n9, c9, rfl⟩ := own_isSlice hown9
      have s9 := hg9.size
      have hJ := HI.out.box.join k7 HM7.out (by omega) (by omega) (by rw [HPL.out, mkM_length]; exact hown9) hg9 hv9
      rw [HLE.out] at hJ
      have hcB9 : w9.cell? ⟨B, 0, none⟩ = some (.slice Av nv cv) := (cell_past k7 hg9 hneB (by omega) 0).trans hcB
      have hfB9 : w9.frozen? ⟨B, 0, none⟩ = false := (frozen_past k7 hg9 hneB (by omega) 0).trans hfB
      have cq9 : w9.cell? ⟨w.heap.size, 2, none⟩ = some (.int .i64 q) := (cell_past k7 hg9 hneL (by omega) 2).trans cqr
      have cR9 : w9.cell? ⟨w.heap.size + 1, 0, none⟩ = some (.slice none 0 0) := (cell_past k7 hg9 hneR (by omega) 0).trans cRr
      have fR9 : w9.frozen? ⟨w.heap.size + 1, 0, none⟩ = false := (frozen_past k7 hg9 hneR (by omega) 0).trans fRr
      have hb9 : Below w.heap.size w w9 := below_of_turn hbr k7 hg9 (fun x e => by have := hlow x e; omega)
      have hcB10 := hJ.cell
      have cR10 : (w9.setCell ⟨B, 0, none⟩ (.slice A9 n9 c9)).cell? ⟨w.heap.size + 1, 0, none⟩ = some (.slice none 0 0) := (cell_set_other w9 0 0 _ (by omega)).trans cR9
      have fR10 : (w9.setCell ⟨B, 0, none⟩ (.slice A9 n9 c9)).frozen? ⟨w.heap.size + 1, 0, none⟩ = false := (frozen_set_other w9 0 0 _ (by omega)).trans fR9
      have HJ := Lib.hid hJ
      refine hK.out _ _ (fun _ => ⟨hcB9, cq9⟩) ?_
      clear hK K hown9 hg9 hv9 hJ
      try simp only [Act.put, List.setIfInBounds_toArray, List.set_cons_zero, List.set_cons_succ]
      refine wpAnyT_one (i := 8) (o := _) rfl (by kernel_rfl) (fun K hK => ?_)
      go_simp
      refine hK.out _ _ (fun _ => ⟨hcB9, cq9⟩) ?_
      clear hK K
      try simp only [Act.put, List.setIfInBounds_toArray, List.set_cons_zero, List.set_cons_succ]
      refine wpAnyT_one (i := 9) (o := _) rfl (by kernel_rfl) (fun K hK => ?_)
      go_simp
      refine hK.out _ _ (fun h => absurd rfl h) ?_
      clear hK K
      refine wpAnyT_done (by kernel_rfl) ?_ _
      simp only [Exit.inBlock, Exit.then]
      go_wp2_with fail
      refine bodyPost_ret (v := .agg #[.slice A9 n9 c9]) (by simp [results, Tryd.results102, go_sem, cR10]) rfl ?_
      have kk := turn_setCell (w9.setCell ⟨B, 0, none⟩ (.slice A9 n9 c9)) (w.heap.size + 1) 0 (.slice A9 n9 c9)
      have hb10 := (hb9.setCell (p := ⟨B, 0, none⟩) (show w.heap.size ≤ B by omega) (.slice A9 n9 c9)).setCell (p := ⟨w.heap.size + 1, 0, none⟩) (show w.heap.size ≤ w.heap.size + 1 by omega) (.slice A9 n9 c9)
      exact ⟨_, _, rfl, (HJ.out.own.keep kk (by omega)).wider (by omega) (by simp) (by simp), TurnIn.of_below hb10⟩

set_option maxRecDepth 100000 in
set_option maxHeartbeats 2000000 in
theorem sLocalMatrix_own (g e q : Int) (w : World) : Calls Tryd.prog 42 #[locV g e q] w (RetMatOk 5 24 w (locR g e q) (locOk g e q)) := by
  have hb0 : TurnIn 0 0 w ((w.alloc (.cells #[.int .i64 g, .int .i64 e, .int .i64 q] 73)).alloc (.cells #[.slice none 0 0] 70)) := turn_trans (turn_alloc _ _) (turn_alloc _ _) (by omega)
  have hz0 : ((w.alloc (.cells #[.int .i64 g, .int .i64 e, .int .i64 q] 73)).alloc (.cells #[.slice none 0 0] 70)).heap.size = w.heap.size + 2 := by simp
  have cR : ((w.alloc (.cells #[.int .i64 g, .int .i64 e, .int .i64 q] 73)).alloc (.cells #[.slice none 0 0] 70)).cell? ⟨w.heap.size + 1, 0, none⟩ = some (.slice none 0 0) := by simp
  have fR : ((w.alloc (.cells #[.int .i64 g, .int .i64 e, .int .i64 q] 73)).alloc (.cells #[.slice none 0 0] 70)).frozen? ⟨w.heap.size + 1, 0, none⟩ = false := by simp
  have cg : ((w.alloc (.cells #[.int .i64 g, .int .i64 e, .int .i64 q] 73)).alloc (.cells #[.slice none 0 0] 70)).cell? ⟨w.heap.size, 0, none⟩ = some (.int .i64 g) := cell_turn (turn_alloc _ _) (alloc_tri0 _ _ _ _ _) (alloc_lt _ _)
  have ce : ((w.alloc (.cells #[.int .i64 g, .int .i64 e, .int .i64 q] 73)).alloc (.cells #[.slice none 0 0] 70)).cell? ⟨w.heap.size, 1, none⟩ = some (.int .i64 e) := cell_turn (turn_alloc _ _) (alloc_tri1 _ _ _ _ _) (alloc_lt _ _)
  have cq : ((w.alloc (.cells #[.int .i64 g, .int .i64 e, .int .i64 q] 73)).alloc (.cells #[.slice none 0 0] 70)).cell? ⟨w.heap.size, 2, none⟩ = some (.int .i64 q) := cell_turn (turn_alloc _ _) (alloc_tri2 _ _ _ _ _) (alloc_lt _ _)
  by_cases h : locOk g e q = true
  · have hb := locOk_b h
    have HL := Lib.hid h
    obtain ⟨⟨hg, he⟩, hq, hd1, hd2⟩ := hb
    obtain ⟨g, rfl⟩ := Int.eq_ofNat_of_zero_le (show 0 ≤ g by omega)
    obtain ⟨e, rfl⟩ := Int.eq_ofNat_of_zero_le (show 0 ≤ e by omega)
    obtain ⟨q, rfl⟩ := Int.eq_ofNat_of_zero_le (show 0 ≤ q by omega)
    rw [← Int.natCast_mul] at hd1 hd2
    have HR := Lib.hid (locR_yes h)
    clear h
    go_enter Tryd.func42, Tryd.ntmps42
    go_wp2_with fail
    refine (sGoodLocal_any (g : Int) (e : Int) (q : Int) _).mono ?_
    rintro e' w1 ⟨rfl, k1⟩
    rw [HL.out]
    have s1 := k1.size
    replace cR := cell_turn k1 cR (by omega)
    replace fR := frozen_turn k1 fR (by omega)
    replace cg := cell_turn k1 cg (by omega)
    replace ce := cell_turn k1 ce (by omega)
    replace cq := cell_turn k1 cq (by omega)
    have hb1 := (turn_trans hb0 k1 (by omega)).to_below
    go_wp2_with fail
    refine (l4Matrix_own g e q (g * e) _ (by omega) (by omega) (by omega) (by omega) rfl).mono ?_
    rintro e' w2 ⟨v', vs', rfl, hM, k2⟩
    obtain ⟨A', n', c', rfl⟩ := hM.isSlice
    have hs2 := k2.size
    replace cR := cell_turn k2 cR (by omega)
    replace fR := frozen_turn k2 fR (by omega)
    have HF := Lib.hid (ret_store hb1 hM k2 (w.heap.size + 1) 0 (by omega) (by omega) (.slice A' n' c'))
    clear hM k2 hb0 hb1
    go_wp2_with fail
    refine bodyPost_ret (v := .tuple #[.agg #[.slice A' n' c'], .bool true]) (by simp [results, Tryd.results42, go_sem, cR]) rfl ?_
    exact ⟨.slice A' n' c', vs', by rw [HL.out], by rw [HR.out]; exact HF.out.1, HF.out.2⟩
  · have HL : Hid (locOk g e q = false) := by show locOk g e q = false; simpa using h
    have HR := Lib.hid (locR_no HL.out)
    clear h
    go_enter Tryd.func42, Tryd.ntmps42
    go_wp2_with fail
    refine (sGoodLocal_any g e q _).mono ?_
    rintro e' w1 ⟨rfl, k1⟩
    rw [HL.out]
    have s1 := k1.size
    replace cR := cell_turn k1 cR (by omega)
    replace fR := frozen_turn k1 fR (by omega)
    have hb1 := (turn_trans hb0 k1 (by omega)).to_below
    go_wp2_with fail
    refine bodyPost_ret (v := .tuple #[.agg #[.slice none 0 0], .bool false]) (by simp [results, Tryd.results42, go_sem, cR]) rfl ?_
    exact ⟨_, [], by rw [HL.out], by rw [HR.out]; exact OwnM.nil _ _ _ _, TurnIn.of_below (hb1.setCell (show w.heap.size ≤ w.heap.size + 1 by omega) _)⟩

end Go.Proofs.YtlkoafnlklhaeaaDoor
