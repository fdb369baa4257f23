/- LocalMatrix, the program's. -/
import Derived.Test.YtlkoafnlklhaeaaDoorMatBox
import Derived.Test.YtlkoafnlklhaeaaDoorLocMath
import Derived.Test.YtlkoafnlklhaeaaDoorSorted
import Derived.Test.YtlkoafnlklhaeaaDoorOpenLoc
import Derived.Test.YtlkoafnlklhaeaaDoorTailHeld
set_option linter.unusedSimpArgs false
set_option linter.unusedVariables false
namespace G294
open Go Go.RowKit
/-- a matrix in a box grows: what lay behind the box when the loop began stays -/
structure LocInv (E EE : TypeId) (lo B : Nat) (w6 : World) (L : Mat) (v : Value) (vs : List Value) (wr : World) : Prop where
  box : MatBox E EE lo B L v vs wr
  turn : TurnIn lo (B + 1) w6 wr
  far : ∀ x, v.ownBlock = some x → x < B ∨ w6.heap.size ≤ x
theorem LocInv.next {E EE : TypeId} {lo B a b : Nat} {w6 wr W w1 : World} {L : Mat} {v v' u : Value} {vs : List Value} {r : List UInt8} (h : LocInv E EE lo B w6 L v vs wr) (k : TurnIn 0 0 wr W) (hu : OwnBytes E W a b u r) (h1 : wr.heap.size ≤ a) (hlo : lo ≤ wr.heap.size) (hB : B < w6.heap.size) (hlB : lo ≤ B)
    (ho : w1.ownsRow lo EE 1 v' (L.length + 1) (vs ++ [u])) (hg : W.grownBy w1 v.ownBlock) (hv : v'.ownBlock = v.ownBlock ∨ v'.ownBlock = some W.heap.size) :
    LocInv E EE lo B w6 (L ++ [r]) v' (vs ++ [u]) (w1.setCell ⟨B, 0, none⟩ v') := by
  have t := h.turn
  have hs := t.size
  have hk := k.size
  have hgs := hg.size
  have ks := turn_setCell w1 B 0 v'
  have hlow : ∀ x, v.ownBlock = some x → lo ≤ x := fun x e => (h.box.own.row.lt x e).1
  refine ⟨h.box.push k hu h1 hlo ho hg hv, ⟨?_, ?_, ?_, ?_, fun x hx hd => ?_⟩, fun x e => ?_⟩
  · exact ks.os.trans (hg.os.trans (k.os.trans t.os))
  · exact ks.tape.trans (hg.tape.trans (k.tape.trans t.tape))
  · exact ks.output.trans (hg.output.trans (k.output.trans t.output))
  · have := ks.size; omega
  · rw [ks.block x (by omega) (by omega), hg.block x (by omega) (fun e => by have := h.far x e.symm; have := hlow x e.symm; omega), k.block x (by omega) (by omega)]
    exact t.block x hx hd
  · rcases hv with e2 | e2
    · exact h.far x (e2 ▸ e)
    · rw [e2] at e; simp at e; omega
theorem below_of_turn {w wr W w1 : World} {row : Option Nat} (h : Below w.heap.size w wr) (k : TurnIn 0 0 wr W) (hg : W.grownBy w1 row) (hr : ∀ x, row = some x → w.heap.size ≤ x) : Below w.heap.size w w1 :=
  have hs := h.size
  have hk := k.size
  ⟨hg.os.trans (k.os.trans h.os), hg.tape.trans (k.tape.trans h.tape), hg.output.trans (k.output.trans h.output), by have := hg.size; omega, fun x hx => (hg.block x (by omega) (fun e => by have := hr x e.symm; omega)).trans ((k.block x (by omega) (by omega)).trans (h.block x hx))⟩
end G294
namespace Go.Proofs.YtlkoafnlklhaeaaDoor
open Go.RowKit Go.Maps G294

set_option maxRecDepth 100000 in
set_option maxHeartbeats 4000000 in
theorem localMatrix_good (g e q d : Nat) (w : World) (hg : 1 ≤ g ∧ g ≤ 4) (he : 1 ≤ e ∧ e ≤ 4) (hq : 1 ≤ q ∧ q ≤ 4) (hd : 1 ≤ d ∧ d ≤ 8) (HDE : Hid (g * e = d)) (HL : Hid (locOk g e q = true)) (ht : Tab w) (h0 : 1 < w.heap.size) :
    Calls Tryd.prog 44 #[locV g e q] w (RetMatOk 5 24 w (locM g e q) true) := by
  have hb0 : TurnIn 0 0 w ((w.alloc (.cells #[.int .i64 g, .int .i64 e, .int .i64 q] 73)).alloc (.cells #[.slice none 0 0] 70)) := turn_trans (turn_alloc _ _) (turn_alloc _ _) (by omega)
  have hz0 : ((w.alloc (.cells #[.int .i64 g, .int .i64 e, .int .i64 q] 73)).alloc (.cells #[.slice none 0 0] 70)).heap.size = w.heap.size + 2 := by simp
  have cR : ((w.alloc (.cells #[.int .i64 g, .int .i64 e, .int .i64 q] 73)).alloc (.cells #[.slice none 0 0] 70)).cell? ⟨w.heap.size + 1, 0, none⟩ = some (.slice none 0 0) := by simp
  have fR : ((w.alloc (.cells #[.int .i64 g, .int .i64 e, .int .i64 q] 73)).alloc (.cells #[.slice none 0 0] 70)).frozen? ⟨w.heap.size + 1, 0, none⟩ = false := by simp
  have cg : ((w.alloc (.cells #[.int .i64 g, .int .i64 e, .int .i64 q] 73)).alloc (.cells #[.slice none 0 0] 70)).cell? ⟨w.heap.size, 0, none⟩ = some (.int .i64 g) := cell_turn (turn_alloc _ _) (alloc_tri0 _ _ _ _ _) (alloc_lt _ _)
  have ce : ((w.alloc (.cells #[.int .i64 g, .int .i64 e, .int .i64 q] 73)).alloc (.cells #[.slice none 0 0] 70)).cell? ⟨w.heap.size, 1, none⟩ = some (.int .i64 e) := cell_turn (turn_alloc _ _) (alloc_tri1 _ _ _ _ _) (alloc_lt _ _)
  have cq : ((w.alloc (.cells #[.int .i64 g, .int .i64 e, .int .i64 q] 73)).alloc (.cells #[.slice none 0 0] 70)).cell? ⟨w.heap.size, 2, none⟩ = some (.int .i64 q) := cell_turn (turn_alloc _ _) (alloc_tri2 _ _ _ _ _) (alloc_lt _ _)
  have HGE : Hid ((g : Int) * (e : Int) = (d : Int)) := by show _ = _; rw [← Int.natCast_mul, HDE.out]
  have HG1 : Hid (goodI d = true) := by show goodI d = true; simp [goodI]; omega
  have HSD : Hid (sidesOk q d = true) := by show sidesOk q d = true; simp [sidesOk, goodI]; omega
  have HR1 : Hid (idR d = mkM d d idF) := by show idR d = _; unfold idR; rw [if_pos HG1.out]; simp
  have HR2 : Hid (cauR q d = mkM q d (cauF d)) := by show cauR q d = _; unfold cauR; rw [if_pos HSD.out]; simp
  have HKEY : Hid (∀ x : Int, grp2 d e g x ≠ [] ↔ 0 ≤ x ∧ x < (g : Int)) := fun x => grp_key HDE.out.symm he.1 x
  obtain ⟨hg1, hg2⟩ := hg
  obtain ⟨he1, he2⟩ := he
  obtain ⟨hq1, hq2⟩ := hq
  obtain ⟨hd1, hd2⟩ := hd
  go_enter Tryd.func44, Tryd.ntmps44
  go_wp2_with fail
  refine (goodLocal_any (g : Int) (e : Int) (q : Int) _).mono ?_
  rintro e' w1 ⟨rfl, k1⟩
  rw [HL.out]
  have s1 := k1.size
  replace cR := cell_turn k1 cR (by omega)
  replace fR := frozen_turn k1 fR (by omega)
  replace cg := cell_turn k1 cg (by omega)
  replace ce := cell_turn k1 ce (by omega)
  replace cq := cell_turn k1 cq (by omega)
  go_wp2_with fail
  refine (localData_any (g : Int) (e : Int) (q : Int) _ (by rw [HGE.out]; omega)).mono ?_
  rintro e' w2 ⟨rfl, k2⟩
  rw [HGE.out]
  have s2 := k2.size
  replace cR := cell_turn k2 cR (by omega)
  replace fR := frozen_turn k2 fR (by omega)
  replace cg := cell_turn k2 cg (by omega)
  replace ce := cell_turn k2 ce (by omega)
  replace cq := cell_turn k2 cq (by omega)
  go_wp2_with fail
  refine (identity_own d _).mono ?_
  rintro e' w3 ⟨v3, vs3, rfl, hM3, k3⟩
  rw [HR1.out] at hM3
  obtain ⟨A3, n3, c3, rfl⟩ := hM3.isSlice
  have s3 := k3.size
  have hMB := MatBox.new hM3 70
  have a3 := turn_alloc w3 (.cells #[.slice A3 n3 c3] 70)
  have z3 := World.size_alloc w3 (.cells #[.slice A3 n3 c3] 70)
  have k4 := turn_trans k3 a3 (by omega)
  replace cR := cell_turn k4 cR (by omega)
  replace fR := frozen_turn k4 fR (by omega)
  replace cg := cell_turn k4 cg (by omega)
  replace ce := cell_turn k4 ce (by omega)
  replace cq := cell_turn k4 cq (by omega)
  have HMB := Lib.hid hMB
  have HV3 : Hid (∀ x, (Value.slice A3 n3 c3).ownBlock = some x → x < w3.heap.size) := hM3.out
  clear hMB hM3
  go_wp2_with fail
  refine (groupsOf_own g e q _ ⟨hg1, hg2⟩ ⟨he1, he2⟩).mono ?_
  rintro e' w5 ⟨Bm, D, rfl, hBm, hown, hG, k5⟩
  rw [HDE.out] at hown hG
  have s5 := k5.size
  have HG := Lib.hid hG
  have HOWN := Lib.hid hown
  clear hG hown
  go_wp2_with fail
  refine (sortedGroups_own Bm (d + g) g D _ _ HOWN.out HG.out HKEY.out (by omega) hg1).mono ?_
  rintro e' w6 ⟨v6, rfl, hv6, k6⟩
  have s6 := k6.size
  have HO6 : Hid (w6.ownsGroups Tryd.prog 3 (Bm + 1) 3 .i64 Bm (d + g) D) := ownsGroups_turn HOWN.out k6
  have hBm6 : Bm < w6.heap.size := by obtain ⟨es, clock, hb, _⟩ := HO6.out; exact (Array.getElem?_eq_some_iff.1 hb).1
  have k56 := turn_trans k5 k6 (by omega)
  replace cR := cell_turn k56 cR (by omega)
  replace fR := frozen_turn k56 fR (by omega)
  replace cg := cell_turn k56 cg (by omega)
  replace ce := cell_turn k56 ce (by omega)
  replace cq := cell_turn k56 cq (by omega)
  have hl6 := hv6.1.lt
  obtain ⟨A, c, rfl, hlc, hcm, hx⟩ := hv6.seen
  simp only [ints_length, List.length_map, List.length_range] at hlc hx ⊢
  unfold maxLen at hcm
  obtain ⟨b, off, rfl, hbl, hcell⟩ := hx (by omega)
  have hbb : w5.heap.size ≤ b := (hl6 b rfl).1
  have HC : Hid (∀ k : Nat, k < g → w6.cell? ⟨b, off + k, none⟩ = some (.int .i64 k)) := fun k hk => hcell k _ (by simp [ints, hk])
  have HT06 : Hid (TurnIn 0 0 w w6) := turn_trans (turn_trans (turn_trans (turn_trans hb0 k1 (by omega)) k2 (by omega)) k4 (by omega)) k56 (by omega)
  have hI0 : LocInv 5 24 w2.heap.size w3.heap.size w6 (locP d e g 0) (.slice A3 n3 c3) vs3 w6 := ⟨(locP_zero d e g) ▸ HMB.out.turn k56, ⟨rfl, rfl, rfl, Nat.le_refl _, fun _ _ _ => rfl⟩, fun x hx => .inl (HV3.out x hx)⟩
  have HI0 := Lib.hid hI0
  have hz3 : w3.heap.size + 1 ≤ w5.heap.size := by omega
  have hBm3 : w3.heap.size + 1 ≤ Bm := by omega
  have hw2 : w.heap.size + 2 ≤ w2.heap.size := by omega
  clear hI0 hx hcell hv6 k1 k2 k3 k4 k5 k6 a3 z3 k56 hBm hz0 hb0 hl6
  have cB0 := HI0.out.box.cell
  go_wp2_with fail
  generalize hlo : w2.heap.size = lo at *
  generalize hBB : w3.heap.size = B at *
  clear cB0
  go_loopw [28] (fun i wr => ∃ k : Nat, k ≤ g ∧ i = .int .i64 k ∧ ∃ v vs, Hid (LocInv 5 24 lo B w6 (locP d e g k) v vs wr)) (fun i _ => g - (intOf i).toNat)
  case atStart => exact ⟨0, Nat.zero_le _, rfl, _, _, HI0⟩
  case round =>
    obtain ⟨k, hk, rfl, v, vs, HI⟩ := hrel
    clear HI0
    have hs := HI.out.turn.size
    have hcB := HI.out.box.cell
    have hfB := HI.out.box.fro
    obtain ⟨Av, nv, cv, rfl⟩ := HI.out.box.own.isSlice
    by_cases hlt : k < g
    · have hki : (k : Int) < (g : Int) := by omega
      have hcx := cell_keepT (HC.out k hlt) hbl HI.out.turn (by omega)
      have hwf : (Lit.int .i64 (k : Int)).wf = true := WalkArith.wf_i64 (by omega)
      obtain ⟨vz, zs, hrun, hat, hoi, hzl, hback⟩ := groups_look HO6.out lawInt Tryd.underlying141 zeroInts (by unfold maxLen; omega) (keyOf_int_mk Tryd.underlying3 hwf)
      have hzs := HG.out.looked hat hoi
      subst hzs
      have HRUN := Lib.hid hrun
      have HSE : Hid (Seen wr vz (ints (grp2 d e g (k : Int)))) := Seen.of_own (owns_turn hoi.1 (fun x e => (hoi.1.lt x e).2) HI.out.turn (by omega))
      have HPO := Lib.hid (grp_pos (d := d) (e := e) (g := g) k)
      have HPE := Lib.hid (parF_ones he1 hlt HDE.out.symm)
      have HSU := Lib.hid (locP_succ d e g k hlt)
      have hpl : (locP d e g k).length = d + k := by simp [locP]
      have HROW0 : Hid (wr.ownsRow lo 24 1 (.slice Av nv cv) (d + k) vs) := by have := HI.out.box.own.row; rw [hpl] at this; exact this
      have HPL := Lib.hid hpl
      have hmap : wr.heap[Bm]? = w6.heap[Bm]? := HI.out.turn.block Bm hBm6 (by omega)
      have hneB : (Value.slice Av nv cv).ownBlock ≠ some B := HI.out.box.ne
      have hneM : (Value.slice Av nv cv).ownBlock ≠ some Bm := fun e => by have := HI.out.far Bm e; omega
      clear hrun hat hoi hzl hback hwf hpl
      go_wp2_with fail
      have hS : (fun W : World => W.cell? ⟨B, 0, none⟩ = some (.slice Av nv cv) ∧ W.heap[Bm]? = w6.heap[Bm]?) wr.drew := ⟨hcB, hmap⟩
      refine wp_region_tail (fun W : World => W.cell? ⟨B, 0, none⟩ = some (.slice Av nv cv) ∧ W.heap[Bm]? = w6.heap[Bm]?) 10 (by kernel_rfl) ?_
      refine wpAnyT_take (i := 0) (oi := _) (v := ?v0) rfl (by kernel_rfl) (by kernel_rfl) (by kernel_rfl) (by kernel_rfl) (fun _ _ _ h => h) (Or.inl ⟨by rfl, ?hy0⟩) hS ?rest0
      case hy0 => (intro W hW; obtain ⟨e1, e2⟩ := hW; go_simp; try with_reducible rfl)
      simp only [Act.put, List.setIfInBounds_toArray, List.set_cons_zero, List.set_cons_succ]
      refine wpAnyT_take (i := 1) (oi := _) (v := ?v1) rfl (by kernel_rfl) (by kernel_rfl) (by kernel_rfl) (by kernel_rfl) (fun _ _ _ h => h) (Or.inl ⟨by rfl, ?hy1⟩) hS ?rest1
      case hy1 => (intro W hW; obtain ⟨e1, e2⟩ := hW; go_simp; try with_reducible rfl)
      simp only [Act.put, List.setIfInBounds_toArray, List.set_cons_zero, List.set_cons_succ]
      refine wpAnyT_take (i := 2) (oi := _) (v := ?v2) rfl (by kernel_rfl) (by kernel_rfl) (by kernel_rfl) (by kernel_rfl) (fun _ _ _ h => h) (Or.inl ⟨by rfl, ?hy2⟩) hS ?rest2
      case hy2 => (intro W hW; obtain ⟨e1, e2⟩ := hW; go_simp; try with_reducible rfl)
      simp only [Act.put, List.setIfInBounds_toArray, List.set_cons_zero, List.set_cons_succ]
      refine wpAnyT_take (i := 3) (oi := _) (v := ?v3) rfl (by kernel_rfl) (by kernel_rfl) (by kernel_rfl) (by kernel_rfl) (fun _ _ _ h => h) (Or.inl ⟨by rfl, ?hy3⟩) hS ?rest3
      case hy3 => (intro W hW; obtain ⟨e1, e2⟩ := hW; go_simp; try with_reducible rfl)
      simp only [Act.put, List.setIfInBounds_toArray, List.set_cons_zero, List.set_cons_succ]
      refine wpAnyT_take (i := 4) (oi := _) (v := ?v4) rfl (by kernel_rfl) (by kernel_rfl) (by kernel_rfl) (by kernel_rfl) (fun _ _ _ h => h) (Or.inl ⟨by rfl, ?hy4⟩) hS ?rest4
      case hy4 => (intro W hW; obtain ⟨e1, e2⟩ := hW; have hrw := HRUN.out W e2; go_simp; try with_reducible rfl)
      simp only [Act.put, List.setIfInBounds_toArray, List.set_cons_zero, List.set_cons_succ]
      refine wpAnyT_take (i := 5) (oi := _) (v := ?v5) rfl (by kernel_rfl) (by kernel_rfl) (by kernel_rfl) (by kernel_rfl) (fun _ _ _ h => h) (Or.inl ⟨by rfl, ?hy5⟩) hS ?rest5
      case hy5 => (intro W hW; obtain ⟨e1, e2⟩ := hW; go_simp; try with_reducible rfl)
      simp only [Act.put, List.setIfInBounds_toArray, List.set_cons_zero, List.set_cons_succ]
      refine wpAnyT_one (i := 6) (o := _) rfl (by kernel_rfl) (fun K hK => ?_)
      go_simp
      refine (parityRow_own vz _ d _ (show Seen wr.drew vz _ from HSE.out) HPO.out ⟨hd1, by omega⟩).mono ?_
      rintro e' w7 ⟨u, rfl, hu, k7⟩
      rw [HPE.out] at hu
      replace k7 := undrew k7
      replace hu : OwnBytes 5 w7 wr.heap.size w7.heap.size u (mkRow d (onesF k e)) := hu
      have s7 := k7.size
      have HU := Lib.hid hu
      obtain ⟨gu, cu, rfl, -⟩ := hu.slice (by simp; omega)
      rw [mkRow_length] at HU ⊢
      clear hu
      refine hK.out _ _ (fun _ => ⟨cell_turn k7 hcB (by omega), (k7.block Bm (by omega) (by omega)).trans hmap⟩) ?_
      clear hK K hS
      try simp only [Act.put, List.setIfInBounds_toArray, List.set_cons_zero, List.set_cons_succ]
      have a8 := turn_alloc w7 (.cells #[.slice (some ⟨gu, 0, none⟩) d cu] 24)
      have z8 := World.size_alloc w7 (.cells #[.slice (some ⟨gu, 0, none⟩) d cu] 24)
      have c8 := alloc_cell w7 (.slice (some ⟨gu, 0, none⟩) d cu) 24
      have k8 := turn_trans k7 a8 (by omega)
      have HROW := Lib.hid (owns_turn HROW0.out (fun x e => HI.out.box.own.out x e) k8 (by omega))
      have HC8 := Lib.hid c8
      have HU8 := Lib.hid ((HU.out.keep a8 (by omega)).wider (Nat.le_refl _) (show w7.heap.size ≤ w7.heap.size + 1 by omega) (by omega))
      clear c8
      refine wpAnyT_one (i := 7) (o := _) rfl (by kernel_rfl) (fun K hK => ?_)
      go_simp
      refine hK.out _ _ (fun _ => ⟨cell_turn k8 hcB (by omega), (k8.block Bm (by omega) (by omega)).trans hmap⟩) ?_
      clear hK K
      try simp only [Act.put, List.setIfInBounds_toArray, List.set_cons_zero, List.set_cons_succ]
      refine wpAnyT_one (i := 8) (o := _) rfl (by kernel_rfl) (fun K hK => ?_)
      refine step_append1 (by rfl) _ _ _ (by rfl) lo 24 _ _ Tryd.underlying68 infoRowB rfl _ (d + k) vs (by rfl) HROW.out w7.heap.size (.slice (some ⟨gu, 0, none⟩) d cu) (by rfl) HC8.out rfl (by omega) (by omega) (by omega) ?_
      intro v9 w9 hown9 hg9 hv9
      obtain ⟨A9, n9, c9, rfl⟩ := own_isSlice hown9
      have hcB9 : w9.cell? ⟨B, 0, none⟩ = some (.slice Av nv cv) := (cell_past k8 hg9 hneB (by omega) 0).trans hcB
      have hfB9 : w9.frozen? ⟨B, 0, none⟩ = false := (frozen_past k8 hg9 hneB (by omega) 0).trans hfB
      have hM9 : w9.heap[Bm]? = w6.heap[Bm]? := (hg9.block Bm (by omega) (fun e => hneM e.symm)).trans ((k8.block Bm (by omega) (by omega)).trans hmap)
      have HIN : Hid (LocInv 5 24 lo B w6 (locP d e g (k + 1)) (.slice A9 n9 c9) (vs ++ [.slice (some ⟨gu, 0, none⟩) d cu]) (w9.setCell ⟨B, 0, none⟩ (.slice A9 n9 c9))) := by
        have := HI.out.next k8 HU8.out (by omega) (by omega) (by omega) (by omega) (by rw [HPL.out]; exact hown9) hg9 hv9
        rw [← HSU.out] at this; exact this
      refine hK.out _ _ (fun _ => ⟨hcB9, hM9⟩) ?_
      clear hK K hown9 hg9 hv9
      try simp only [Act.put, List.setIfInBounds_toArray, List.set_cons_zero, List.set_cons_succ]
      refine wpAnyT_one (i := 9) (o := _) rfl (by kernel_rfl) (fun K hK => ?_)
      go_simp
      refine hK.out _ _ (fun _ => ⟨hcB9, hM9⟩) ?_
      clear hK K
      try simp only [Act.put, List.setIfInBounds_toArray, List.set_cons_zero, List.set_cons_succ]
      refine wpAnyT_one (i := 10) (o := _) rfl (by kernel_rfl) (fun K hK => ?_)
      go_simp
      refine hK.out _ _ (fun h => absurd rfl h) ?_
      clear hK K
      refine wpAnyT_done (by kernel_rfl) ?_ _
      simp only [Exit.inBlock, Exit.then]
      go_wp2_with fail
      go_roundw
      case rel => exact ⟨k + 1, by omega, by go_num, _, _, HIN⟩
      case measure => simp [intOf]; omega
    · obtain rfl : k = g := by omega
      have hki : ¬ (k : Int) < (k : Int) := by omega
      have tq := HI.out.turn
      have cqr := cell_keepT cq (show w.heap.size < w6.heap.size by omega) tq (by omega)
      have cRr := cell_keepT cR (show w.heap.size + 1 < w6.heap.size by omega) tq (by omega)
      have fRr : wr.frozen? ⟨w.heap.size + 1, 0, none⟩ = false := by
        have e := tq.block (w.heap.size + 1) (by omega) (by omega)
        unfold World.frozen? at fR ⊢
        rw [e]; exact fR
      have hbr : Below w.heap.size w wr := tq.base HT06.out.to_below (by omega) (by omega)
      have HTR := Lib.hid (ht.below hbr h0)
      have hlow : ∀ x, (Value.slice Av nv cv).ownBlock = some x → lo ≤ x := fun x e => (HI.out.box.own.row.lt x e).1
      have hneB : (Value.slice Av nv cv).ownBlock ≠ some B := HI.out.box.ne
      have hneR : (Value.slice Av nv cv).ownBlock ≠ some (w.heap.size + 1) := fun e => by have := hlow _ e; omega
      have hpl : (locP d e k k).length = d + k := by simp [locP]
      have HROW0 : Hid (wr.ownsRow lo 24 1 (.slice Av nv cv) (d + k) vs) := by have := HI.out.box.own.row; rw [hpl] at this; exact this
      have HPL := Lib.hid hpl
      have HLE := Lib.hid (locM_eq k e q)
      rw [HDE.out] at HLE
      clear cR fR cq cg ce hpl
      go_wp2_with fail
      refine (cauchy_own q d _ HTR.out (by omega)).mono ?_
      rintro e' w7 ⟨v7, vs7, rfl, hM7, k7⟩
      rw [HR2.out] at hM7
      obtain ⟨g7, cp7, rfl, hg7, hg7', hcp7, hcp7'⟩ := hM7.sliceF (by omega)
      have s7 := k7.size
      have a8 := turn_alloc w7 (.cells #[.slice (some ⟨g7, 0, none⟩) q cp7] 70)
      have z8 := World.size_alloc w7 (.cells #[.slice (some ⟨g7, 0, none⟩) q cp7] 70)
      have c8 := alloc_cell w7 (.slice (some ⟨g7, 0, none⟩) q cp7) 70
      have k8 := turn_trans k7 a8 (by omega)
      have hcB8 := cell_turn k8 hcB (by omega)
      have hfB8 := frozen_turn k8 hfB (by omega)
      have HM8 := Lib.hid ((hM7.keep a8 (by omega)).wider (Nat.le_refl _) (show w7.heap.size ≤ w7.heap.size + 1 by omega) (by omega))
      have hyl : vs7.length = q := by have := hM7.vlen; simpa using this
      have HROW := Lib.hid (owns_turn HROW0.out (fun x e => HI.out.box.own.out x e) k8 (by omega))
      have HYS : Hid (∀ j y, vs7[j]? = some y → (w7.alloc (.cells #[.slice (some ⟨g7, 0, none⟩) q cp7] 70)).cell? ((⟨g7, 0, none⟩ : Addr).add j) = some y) := fun j y hj => by rw [Addr.add_lit, Nat.zero_add]; exact HM8.out.cellAt hj
      have HY1 := Lib.hid (rows_oneC hM7)
      clear hM7
      go_wp2_with (at_builtin; refine wpList_appendN rfl _ _ _ rfl lo 24 _ _ Tryd.underlying68 infoRowB rfl _ (d + k) vs rfl HROW.out ⟨g7, 0, none⟩ q cp7 vs7 rfl hyl HYS.out HY1.out ?c1 ?c2 ?c3 ?_)
      case c1 => omega
      case c2 => omega
      case c3 => omega
      intro v9 w9 hown9 hg9 hv9
      obtain ⟨A9, n9, c9, rfl⟩ := own_isSlice hown9
      have s9 := hg9.size
      have hJ := HI.out.box.join k8 HM8.out (by omega) (by omega) (by rw [HPL.out, mkM_length]; exact hown9) hg9 (by rw [z8]; exact hv9)
      rw [HLE.out] at hJ
      have hcB9 : w9.cell? ⟨B, 0, none⟩ = some (.slice Av nv cv) := (cell_past k8 hg9 hneB (by omega) 0).trans hcB
      have hfB9 : w9.frozen? ⟨B, 0, none⟩ = false := (frozen_past k8 hg9 hneB (by omega) 0).trans hfB
      have cR9 : w9.cell? ⟨w.heap.size + 1, 0, none⟩ = some (.slice none 0 0) := (cell_past k8 hg9 hneR (by omega) 0).trans cRr
      have fR9 : w9.frozen? ⟨w.heap.size + 1, 0, none⟩ = false := (frozen_past k8 hg9 hneR (by omega) 0).trans fRr
      have hb9 : Below w.heap.size w w9 := below_of_turn hbr k8 hg9 (fun x e => by have := hlow x e; omega)
      have hcB10 := hJ.cell
      have cR10 : (w9.setCell ⟨B, 0, none⟩ (.slice A9 n9 c9)).cell? ⟨w.heap.size + 1, 0, none⟩ = some (.slice none 0 0) := (cell_set_other w9 0 0 _ (by omega)).trans cR9
      have fR10 : (w9.setCell ⟨B, 0, none⟩ (.slice A9 n9 c9)).frozen? ⟨w.heap.size + 1, 0, none⟩ = false := (frozen_set_other w9 0 0 _ (by omega)).trans fR9
      have HJ := Lib.hid hJ
      clear hJ hown9 hg9 hv9
      go_wp2_with fail
      refine bodyPost_ret (v := .tuple #[.agg #[.slice A9 n9 c9], .bool true]) (by simp [results, Tryd.results44, go_sem, cR10]) rfl ?_
      have kk := turn_setCell (w9.setCell ⟨B, 0, none⟩ (.slice A9 n9 c9)) (w.heap.size + 1) 0 (.slice A9 n9 c9)
      have hb10 := (hb9.setCell (p := ⟨B, 0, none⟩) (show w.heap.size ≤ B by omega) (.slice A9 n9 c9)).setCell (p := ⟨w.heap.size + 1, 0, none⟩) (show w.heap.size ≤ w.heap.size + 1 by omega) (.slice A9 n9 c9)
      exact ⟨_, _, rfl, (HJ.out.own.keep kk (by omega)).wider (by omega) (by simp) (by simp), TurnIn.of_below hb10⟩

set_option maxRecDepth 100000 in
set_option maxHeartbeats 2000000 in
theorem localMatrix_no (g e q : Int) (w : World) (HL : Hid (locOk g e q = false)) :
    Calls Tryd.prog 44 #[locV g e q] w (RetMatOk 5 24 w [] false) := by
  have hb0 : TurnIn 0 0 w ((w.alloc (.cells #[.int .i64 g, .int .i64 e, .int .i64 q] 73)).alloc (.cells #[.slice none 0 0] 70)) := turn_trans (turn_alloc _ _) (turn_alloc _ _) (by omega)
  have hz0 : ((w.alloc (.cells #[.int .i64 g, .int .i64 e, .int .i64 q] 73)).alloc (.cells #[.slice none 0 0] 70)).heap.size = w.heap.size + 2 := by simp
  have cR : ((w.alloc (.cells #[.int .i64 g, .int .i64 e, .int .i64 q] 73)).alloc (.cells #[.slice none 0 0] 70)).cell? ⟨w.heap.size + 1, 0, none⟩ = some (.slice none 0 0) := by simp
  have fR : ((w.alloc (.cells #[.int .i64 g, .int .i64 e, .int .i64 q] 73)).alloc (.cells #[.slice none 0 0] 70)).frozen? ⟨w.heap.size + 1, 0, none⟩ = false := by simp
  have cg : ((w.alloc (.cells #[.int .i64 g, .int .i64 e, .int .i64 q] 73)).alloc (.cells #[.slice none 0 0] 70)).cell? ⟨w.heap.size, 0, none⟩ = some (.int .i64 g) := cell_turn (turn_alloc _ _) (alloc_tri0 _ _ _ _ _) (alloc_lt _ _)
  have ce : ((w.alloc (.cells #[.int .i64 g, .int .i64 e, .int .i64 q] 73)).alloc (.cells #[.slice none 0 0] 70)).cell? ⟨w.heap.size, 1, none⟩ = some (.int .i64 e) := cell_turn (turn_alloc _ _) (alloc_tri1 _ _ _ _ _) (alloc_lt _ _)
  have cq : ((w.alloc (.cells #[.int .i64 g, .int .i64 e, .int .i64 q] 73)).alloc (.cells #[.slice none 0 0] 70)).cell? ⟨w.heap.size, 2, none⟩ = some (.int .i64 q) := cell_turn (turn_alloc _ _) (alloc_tri2 _ _ _ _ _) (alloc_lt _ _)
  go_enter Tryd.func44, Tryd.ntmps44
  go_wp2_with fail
  refine (goodLocal_any g e q _).mono ?_
  rintro e' w1 ⟨rfl, k1⟩
  rw [HL.out]
  have s1 := k1.size
  replace cR := cell_turn k1 cR (by omega)
  replace fR := frozen_turn k1 fR (by omega)
  have hb1 := (turn_trans hb0 k1 (by omega)).to_below
  go_wp2_with fail
  refine bodyPost_ret (v := .tuple #[.agg #[.slice none 0 0], .bool false]) (by simp [results, Tryd.results44, go_sem, cR]) rfl ?_
  exact ⟨_, [], rfl, OwnM.nil _ _ _ _, TurnIn.of_below (hb1.setCell (show w.heap.size ≤ w.heap.size + 1 by omega) _)⟩

theorem localMatrix_own (g e q : Int) (w : World) (ht : Tab w) (h0 : 1 < w.heap.size) :
    Calls Tryd.prog 44 #[locV g e q] w (RetMatOk 5 24 w (locR g e q) (locOk g e q)) := by
  by_cases h : locOk g e q = true
  · have hb := locOk_b h
    obtain ⟨⟨hg, he⟩, hq, hd1, hd2⟩ := hb
    obtain ⟨g, rfl⟩ := Int.eq_ofNat_of_zero_le (show 0 ≤ g by omega)
    obtain ⟨e, rfl⟩ := Int.eq_ofNat_of_zero_le (show 0 ≤ e by omega)
    obtain ⟨q, rfl⟩ := Int.eq_ofNat_of_zero_le (show 0 ≤ q by omega)
    rw [← Int.natCast_mul] at hd1 hd2
    rw [locR_yes h, h]
    exact localMatrix_good g e q (g * e) w (by omega) (by omega) (by omega) (by omega) rfl h ht h0
  · have h : locOk g e q = false := by simpa using h
    rw [locR_no h, h]
    exact localMatrix_no g e q w h

end Go.Proofs.YtlkoafnlklhaeaaDoor
