/- Joined texts: LocMat, SpecLoc, Two, VecPair. -/
import Derived.Test.YtlkoafnlklhaeaaDoorBd04
import Derived.Test.YtlkoafnlklhaeaaDoorBd06
import Derived.Test.YtlkoafnlklhaeaaDoorBd05
import Derived.Test.YtlkoafnlklhaeaaDoorBd01
set_option linter.unusedSimpArgs false
set_option linter.unusedVariables false
/- LocalMatrix, the program's. -/
namespace G294
open Go Go.RowKit
/-- a matrix in a box grows: what lay behind the box when the loop began stays -/
structure LocInv (E EE : TypeId) (lo B : Nat) (w6 : World) (L : Mat) (v : Value) (vs : List Value) (wr : World) : Prop where
  box : MatBox E EE lo B L v vs wr
  turn : TurnIn lo (B + 1) w6 wr
  far : ∀ x, v.ownBlock = some x → x < B ∨ w6.heap.size ≤ x
theorem LocInv.next {E EE : TypeId} {lo B a b : Nat} {w6 wr W w1 : World} {L : Mat} {v v' u : Value} {vs : List Value} {r : List UInt8} (h : LocInv E EE lo B w6 L v vs wr) (k : TurnIn 0 0 wr W) (hu : OwnBytes E W a b u r) (h1 : wr.heap.size ≤ a) (hlo : lo ≤ wr.heap.size) (hB : B < w6.heap.size) (hlB : lo ≤ B)
    (ho : w1.ownsRow lo EE 1 v' (L.length + 1) (vs ++ [u])) (hg : W.grownBy w1 v.ownBlock) (hv : v'.ownBlock = v.ownBlock ∨ v'.ownBlock = some W.heap.size) :
    LocInv E EE lo B w6 (L ++ [r]) v' (vs ++ [u]) (w1.setCell ⟨B, 0, none⟩ v') := by
  have t := h.turn
  have hs := t.size
  have hk := k.size
  have hgs := hg.size
  have ks := turn_setCell w1 B 0 v'
  have hlow : ∀ x, v.ownBlock = some x → lo ≤ x := fun x e => (h.box.own.row.lt x e).1
  refine ⟨h.box.push k hu h1 hlo ho hg hv, ⟨?_, ?_, ?_, ?_, fun x hx hd => ?_⟩, fun x e => ?_⟩
  · exact ks.os.trans (hg.os.trans (k.os.trans t.os))
  · exact ks.tape.trans (hg.tape.trans (k.tape.trans t.tape))
  · exact ks.output.trans (hg.output.trans (k.output.trans t.output))
  · have := ks.size; omega
  · rw [ks.block x (by omega) (by omega), hg.block x (by omega) (fun e => by have := h.far x e.symm; have := hlow x e.symm; omega), k.block x (by omega) (by omega)]
    exact t.block x hx hd
  · rcases hv with e2 | e2
    · exact h.far x (e2 ▸ e)
    · rw [e2] at e; simp at e; omega
theorem below_of_turn {w wr W w1 : World} {row : Option Nat} (h : Below w.heap.size w wr) (k : TurnIn 0 0 wr W) (hg : W.grownBy w1 row) (hr : ∀ x, row = some x → w.heap.size ≤ x) : Below w.heap.size w w1 :=
  have hs := h.size
  have hk := k.size
  ⟨hg.os.trans (k.os.trans h.os), hg.tape.trans (k.tape.trans h.tape), hg.output.trans (k.output.trans h.output), by have := hg.size; omega, fun x hx => (hg.block x (by omega) (fun e => by have := hr x e.symm; omega)).trans ((k.block x (by omega) (by omega)).trans (h.block x hx))⟩
end G294
namespace Go.Proofs.YtlkoafnlklhaeaaDoor
open Go.RowKit Go.Maps G294

set_option maxRecDepth 100000 in
set_option maxHeartbeats 4000000 in
theorem localMatrix_good (g e q d : Nat) (w : World) (hg : 1 ≤ g ∧ g ≤ 4) (he : 1 ≤ e ∧ e ≤ 4) (hq : 1 ≤ q ∧ q ≤ 4) (hd : 1 ≤ d ∧ d ≤ 8) (HDE : Hid (g * e = d)) (HL : Hid (locOk g e q = true)) (ht : Tab w) (h0 : 1 < w.heap.size) :
    Calls Tryd.prog 44 #[locV g e q] w (RetMatOk 5 24 w (locM g e q) true) := by
  have hb0 : TurnIn 0 0 w ((w.alloc (.cells #[.int .i64 g, .int .i64 e, .int .i64 q] 73)).alloc (.cells #[.slice none 0 0] 70)) := turn_trans (turn_alloc _ _) (turn_alloc _ _) (by omega)
  have hz0 : ((w.alloc (.cells #[.int .i64 g, .int .i64 e, .int .i64 q] 73)).alloc (.cells #[.slice none 0 0] 70)).heap.size = w.heap.size + 2 := by simp
  have cR : ((w.alloc (.cells #[.int .i64 g, .int .i64 e, .int .i64 q] 73)).alloc (.cells #[.slice none 0 0] 70)).cell? ⟨w.heap.size + 1, 0, none⟩ = some (.slice none 0 0) := by simp
  have fR : ((w.alloc (.cells #[.int .i64 g, .int .i64 e, .int .i64 q] 73)).alloc (.cells #[.slice none 0 0] 70)).frozen? ⟨w.heap.size + 1, 0, none⟩ = false := by simp
  have cg : ((w.alloc (.cells #[.int .i64 g, .int .i64 e, .int .i64 q] 73)).alloc (.cells #[.slice none 0 0] 70)).cell? ⟨w.heap.size, 0, none⟩ = some (.int .i64 g) := cell_turn (turn_alloc _ _) (alloc_tri0 _ _ _ _ _) (alloc_lt _ _)
  have ce : ((w.alloc (.cells #[.int .i64 g, .int .i64 e, .int .i64 q] 73)).alloc (.cells #[.slice none 0 0] 70)).cell? ⟨w.heap.size, 1, none⟩ = some (.int .i64 e) := cell_turn (turn_alloc _ _) (alloc_tri1 _ _ _ _ _) (alloc_lt _ _)
  have cq : ((w.alloc (.cells #[.int .i64 g, .int .i64 e, .int .i64 q] 73)).alloc (.cells #[.slice none 0 0] 70)).cell? ⟨w.heap.size, 2, none⟩ = some (.int .i64 q) := cell_turn (turn_alloc _ _) (alloc_tri2 _ _ _ _ _) (alloc_lt _ _)
  have HGE : Hid ((g : Int) * (e : Int) = (d : Int)) := by show _ = _; rw [← Int.natCast_mul, HDE.out]
  have HG1 : Hid (goodI d = true) := by show goodI d = true; simp [goodI]; omega
  have HSD : Hid (sidesOk q d = true) := by show sidesOk q d = true; simp [sidesOk, goodI]; omega
  have HR1 : Hid (idR d = mkM d d idF) := by show idR d = _; unfold idR; rw [if_pos HG1.out]; simp
  have HR2 : Hid (cauR q d = mkM q d (cauF d)) := by show cauR q d = _; unfold cauR; rw [if_pos HSD.out]; simp
  have HKEY : Hid (∀ x : Int, grp2 d e g x ≠ [] ↔ 0 ≤ x ∧ x < (g : Int)) := fun x => grp_key HDE.out.symm he.1 x
  obtain ⟨hg1, hg2⟩ := hg
  obtain ⟨he1, he2⟩ := he
  obtain ⟨hq1, hq2⟩ := hq
  obtain ⟨hd1, hd2⟩ := hd
  go_enter Tryd.func44, Tryd.ntmps44
  go_wp2_with fail
  refine (goodLocal_any (g : Int) (e : Int) (q : Int) _).mono ?_
  rintro e' w1 ⟨rfl, k1⟩
  rw [HL.out]
  have s1 := k1.size
  replace cR := cell_turn k1 cR (by omega)
  replace fR := frozen_turn k1 fR (by omega)
  replace cg := cell_turn k1 cg (by omega)
  replace ce := cell_turn k1 ce (by omega)
  replace cq := cell_turn k1 cq (by omega)
  go_wp2_with fail
  refine (localData_any (g : Int) (e : Int) (q : Int) _ (by rw [HGE.out]; omega)).mono ?_
  rintro e' w2 ⟨rfl, k2⟩
  rw [HGE.out]
  have s2 := k2.size
  replace cR := cell_turn k2 cR (by omega)
  replace fR := frozen_turn k2 fR (by omega)
  replace cg := cell_turn k2 cg (by omega)
  replace ce := cell_turn k2 ce (by omega)
  replace cq := cell_turn k2 cq (by omega)
  go_wp2_with fail
  refine (identity_own d _).mono ?_
  rintro e' w3 ⟨v3, vs3, rfl, hM3, k3⟩
  rw [HR1.out] at hM3
  obtain ⟨A3, n3, c3, rfl⟩ := hM3.isSlice
  have s3 := k3.size
  have hMB := MatBox.new hM3 70
  have a3 := turn_alloc w3 (.cells #[.slice A3 n3 c3] 70)
  have z3 := World.size_alloc w3 (.cells #[.slice A3 n3 c3] 70)
  have k4 := turn_trans k3 a3 (by omega)
  replace cR := cell_turn k4 cR (by omega)
  replace fR := frozen_turn k4 fR (by omega)
  replace cg := cell_turn k4 cg (by omega)
  replace ce := cell_turn k4 ce (by omega)
  replace cq := cell_turn k4 cq (by omega)
  have HMB := Lib.hid hMB
  have HV3 : Hid (∀ x, (Value.slice A3 n3 c3).ownBlock = some x → x < w3.heap.size) := hM3.out
  clear hMB hM3
  go_wp2_with fail
  refine (groupsOf_own g e q _ ⟨hg1, hg2⟩ ⟨he1, he2⟩).mono ?_
  rintro e' w5 ⟨Bm, D, rfl, hBm, hown, hG, k5⟩
  rw [HDE.out] at hown hG
  have s5 := k5.size
  have HG := Lib.hid hG
  have HOWN := Lib.hid hown
  clear hG hown
  go_wp2_with fail
  refine (sortedGroups_own Bm (d + g) g D _ _ HOWN.out HG.out HKEY.out (by omega) hg1).mono ?_
  rintro e' w6 ⟨v6, rfl, hv6, k6⟩
  have s6 := k6.size
  have HO6 : Hid (w6.ownsGroups Tryd.prog 3 (Bm + 1) 3 .i64 Bm (d + g) D) := ownsGroups_turn HOWN.out k6
  have hBm6 : Bm < w6.heap.size := by obtain ⟨es, clock, hb, _⟩ := HO6.out; exact (Array.getElem?_eq_some_iff.1 hb).1
  have k56 := turn_trans k5 k6 (by omega)
  replace cR := cell_turn k56 cR (by omega)
  replace fR := frozen_turn k56 fR (by omega)
  replace cg := cell_turn k56 cg (by omega)
  replace ce := cell_turn k56 ce (by omega)
  replace cq := cell_turn k56 cq (by omega)
  have hl6 := hv6.1.lt
  obtain ⟨A, c, rfl, hlc, hcm, hx⟩ := hv6.seen
  simp only [ints_length, List.length_map, List.length_range] at hlc hx ⊢
  unfold maxLen at hcm
  obtain ⟨b, off, rfl, hbl, hcell⟩ := hx (by omega)
  have hbb : w5.heap.size ≤ b := (hl6 b rfl).1
  have HC : Hid (∀ k : Nat, k < g → w6.cell? ⟨b, off + k, none⟩ = some (.int .i64 k)) := fun k hk => hcell k _ (by simp [ints, hk])
  have HT06 : Hid (TurnIn 0 0 w w6) := turn_trans (turn_trans (turn_trans (turn_trans hb0 k1 (by omega)) k2 (by omega)) k4 (by omega)) k56 (by omega)
  have hI0 : LocInv 5 24 w2.heap.size w3.heap.size w6 (locP d e g 0) (.slice A3 n3 c3) vs3 w6 := ⟨(locP_zero d e g) ▸ HMB.out.turn k56, ⟨rfl, rfl, rfl, Nat.le_refl _, fun _ _ _ => rfl⟩, fun x hx => .inl (HV3.out x hx)⟩
  have HI0 := Lib.hid hI0
  have hz3 : w3.heap.size + 1 ≤ w5.heap.size := by omega
  have hBm3 : w3.heap.size + 1 ≤ Bm := by omega
  have hw2 : w.heap.size + 2 ≤ w2.heap.size := by omega
  clear hI0 hx hcell hv6 k1 k2 k3 k4 k5 k6 a3 z3 k56 hBm hz0 hb0 hl6
  have cB0 := HI0.out.box.cell
  go_wp2_with fail
  generalize hlo : w2.heap.size = lo at *
  generalize hBB : w3.heap.size = B at *
  clear cB0
  go_loopw [28] (fun i wr => ∃ k : Nat, k ≤ g ∧ i = .int .i64 k ∧ ∃ v vs, Hid (LocInv 5 24 lo B w6 (locP d e g k) v vs wr)) (fun i _ => g - (intOf i).toNat)
  case atStart => exact ⟨0, Nat.zero_le _, rfl, _, _, HI0⟩
  case round =>
    obtain ⟨k, hk, rfl, v, vs, HI⟩ := hrel
    clear HI0
    have hs := HI.out.turn.size
    have hcB := HI.out.box.cell
    have hfB := HI.out.box.fro
    obtain ⟨Av, nv, cv, rfl⟩ := HI.out.box.own.isSlice
    by_cases hlt : k < g
    · have hki : (k : Int) < (g : Int) := by omega
      have hcx := cell_keepT (HC.out k hlt) hbl HI.out.turn (by omega)
      have hwf : (Lit.int .i64 (k : Int)).wf = true := WalkArith.wf_i64 (by omega)
      obtain ⟨vz, zs, hrun, hat, hoi, hzl, hback⟩ := groups_look HO6.out lawInt Tryd.underlying141 zeroInts (by unfold maxLen; omega) (keyOf_int_mk Tryd.underlying3 hwf)
      have hzs := HG.out.looked hat hoi
      subst hzs
      have HRUN := Lib.hid hrun
      have HSE : Hid (Seen wr vz (ints (grp2 d e g (k : Int)))) := Seen.of_own (owns_turn hoi.1 (fun x e => (hoi.1.lt x e).2) HI.out.turn (by omega))
      have HPO := Lib.hid (grp_pos (d := d) (e := e) (g := g) k)
      have HPE := Lib.hid (parF_ones he1 hlt HDE.out.symm)
      have HSU := Lib.hid (locP_succ d e g k hlt)
      have hpl : (locP d e g k).length = d + k := by simp [locP]
      have HROW0 : Hid (wr.ownsRow lo 24 1 (.slice Av nv cv) (d + k) vs) := by have := HI.out.box.own.row; rw [hpl] at this; exact this
      have HPL := Lib.hid hpl
      have hmap : wr.heap[Bm]? = w6.heap[Bm]? := HI.out.turn.block Bm hBm6 (by omega)
      have hneB : (Value.slice Av nv cv).ownBlock ≠ some B := HI.out.box.ne
      have hneM : (Value.slice Av nv cv).ownBlock ≠ some Bm := fun e => by have := HI.out.far Bm e; omega
      clear hrun hat hoi hzl hback hwf hpl
      go_wp2_with fail
      have hS : (fun W : World => W.cell? ⟨B, 0, none⟩ = some (.slice Av nv cv) ∧ W.heap[Bm]? = w6.heap[Bm]?) wr.drew := ⟨hcB, hmap⟩
      refine wp_region_tail (fun W : World => W.cell? ⟨B, 0, none⟩ = some (.slice Av nv cv) ∧ W.heap[Bm]? = w6.heap[Bm]?) 10 (by kernel_rfl) ?_
      refine wpAnyT_take (i := 0) (oi := _) (v := ?v0) rfl (by kernel_rfl) (by kernel_rfl) (by kernel_rfl) (by kernel_rfl) (fun _ _ _ h => h) (Or.inl ⟨by rfl, ?hy0⟩) hS ?rest0
      case hy0 => (intro W hW; obtain ⟨e1, e2⟩ := hW; go_simp; try with_reducible rfl)
      simp only [Act.put, List.setIfInBounds_toArray, List.set_cons_zero, List.set_cons_succ]
      refine wpAnyT_take (i := 1) (oi := _) (v := ?v1) rfl (by kernel_rfl) (by kernel_rfl) (by kernel_rfl) (by kernel_rfl) (fun _ _ _ h => h) (Or.inl ⟨by rfl, ?hy1⟩) hS ?rest1
      case hy1 => (intro W hW; obtain ⟨e1, e2⟩ := hW; go_simp; try with_reducible rfl)
      simp only [Act.put, List.setIfInBounds_toArray, List.set_cons_zero, List.set_cons_succ]
      refine wpAnyT_take (i := 2) (oi := _) (v := ?v2) rfl (by kernel_rfl) (by kernel_rfl) (by kernel_rfl) (by kernel_rfl) (fun _ _ _ h => h) (Or.inl ⟨by rfl, ?hy2⟩) hS ?rest2
      case hy2 => (intro W hW; obtain ⟨e1, e2⟩ := hW; go_simp; try with_reducible rfl)
      simp only [Act.put, List.setIfInBounds_toArray, List.set_cons_zero, List.set_cons_succ]
      refine wpAnyT_take (i := 3) (oi := _) (v := ?v3) rfl (by kernel_rfl) (by kernel_rfl) (by kernel_rfl) (by kernel_rfl) (fun _ _ _ h => h) (Or.inl ⟨by rfl, ?hy3⟩) hS ?rest3
      case hy3 => (intro W hW; obtain ⟨e1, e2⟩ := hW; go_simp; try with_reducible rfl)
      simp only [Act.put, List.setIfInBounds_toArray, List.set_cons_zero, List.set_cons_succ]
      refine wpAnyT_take (i := 4) (oi := _) (v := ?v4) rfl (by kernel_rfl) (by kernel_rfl) (by kernel_rfl) (by kernel_rfl) (fun _ _ _ h => h) (Or.inl ⟨by rfl, ?hy4⟩) hS ?rest4
      case hy4 => (intro W hW; obtain ⟨e1, e2⟩ := hW; have hrw := HRUN.out W e2; go_simp; try with_reducible rfl)
      simp only [Act.put, List.setIfInBounds_toArray, List.set_cons_zero, List.set_cons_succ]
      refine wpAnyT_take (i := 5) (oi := _) (v := ?v5) rfl (by kernel_rfl) (by kernel_rfl) (by kernel_rfl) (by kernel_rfl) (fun _ _ _ h => h) (Or.inl ⟨by rfl, ?hy5⟩) hS ?rest5
      case hy5 => (intro W hW; obtain ⟨e1, e2⟩ := hW; go_simp; try with_reducible rfl)
      simp only [Act.put, List.setIfInBounds_toArray, List.set_cons_zero, List.set_cons_succ]
      refine wpAnyT_one (i := 6) (o := _) rfl (by kernel_rfl) (fun K hK => ?_)
      go_simp
      refine (parityRow_own vz _ d _ (show Seen wr.drew vz _ from HSE.out) HPO.out ⟨hd1, by omega⟩).mono ?_
      rintro e' w7 ⟨u, rfl, hu, k7⟩
      rw [HPE.out] at hu
      replace k7 := undrew k7
      replace hu : OwnBytes 5 w7 wr.heap.size w7.heap.size u (mkRow d (onesF k e)) := hu
      have s7 := k7.size
      have HU := Lib.hid hu
      obtain ⟨gu, cu, rfl, -⟩ := hu.slice (by simp; omega)
      rw [mkRow_length] at HU ⊢
      clear hu
      refine hK.out _ _ (fun _ => ⟨cell_turn k7 hcB (by omega), (k7.block Bm (by omega) (by omega)).trans hmap⟩) ?_
      clear hK K hS
      try simp only [Act.put, List.setIfInBounds_toArray, List.set_cons_zero, List.set_cons_succ]
      have a8 := turn_alloc w7 (.cells #[.slice (some ⟨gu, 0, none⟩) d cu] 24)
      have z8 := World.size_alloc w7 (.cells #[.slice (some ⟨gu, 0, none⟩) d cu] 24)
      have c8 := alloc_cell w7 (.slice (some ⟨gu, 0, none⟩) d cu) 24
      have k8 := turn_trans k7 a8 (by omega)
      have HROW := Lib.hid (owns_turn HROW0.out (fun x e => HI.out.box.own.out x e) k8 (by omega))
      have HC8 := Lib.hid c8
      have HU8 := Lib.hid ((HU.out.keep a8 (by omega)).wider (Nat.le_refl _) (show w7.heap.size ≤ w7.heap.size + 1 by omega) (by omega))
      clear c8
      refine wpAnyT_one (i := 7) (o := _) rfl (by kernel_rfl) (fun K hK => ?_)
      go_simp
      refine hK.out _ _ (fun _ => ⟨cell_turn k8 hcB (by omega), (k8.block Bm (by omega) (by omega)).trans hmap⟩) ?_
      clear hK K
      try simp only [Act.put, List.setIfInBounds_toArray, List.set_cons_zero, List.set_cons_succ]
      refine wpAnyT_one (i := 8) (o := _) rfl (by kernel_rfl) (fun K hK => ?_)
      refine step_append1 (by rfl) _ _ _ (by rfl) lo 24 _ _ Tryd.underlying68 infoRowB rfl _ (d + k) vs (by rfl) HROW.out w7.heap.size (.slice (some ⟨gu, 0, none⟩) d cu) (by rfl) HC8.out rfl (by omega) (by omega) (by omega) ?_
      intro v9 w9 hown9 hg9 hv9
      obtain ⟨A9, n9, c9, rfl⟩ := own_isSlice hown9
      have hcB9 : w9.cell? ⟨B, 0, none⟩ = some (.slice Av nv cv) := (cell_past k8 hg9 hneB (by omega) 0).trans hcB
      have hfB9 : w9.frozen? ⟨B, 0, none⟩ = false := (frozen_past k8 hg9 hneB (by omega) 0).trans hfB
      have hM9 : w9.heap[Bm]? = w6.heap[Bm]? := (hg9.block Bm (by omega) (fun e => hneM e.symm)).trans ((k8.block Bm (by omega) (by omega)).trans hmap)
      have HIN : Hid (LocInv 5 24 lo B w6 (locP d e g (k + 1)) (.slice A9 n9 c9) (vs ++ [.slice (some ⟨gu, 0, none⟩) d cu]) (w9.setCell ⟨B, 0, none⟩ (.slice A9 n9 c9))) := by
        have := HI.out.next k8 HU8.out (by omega) (by omega) (by omega) (by omega) (by rw [HPL.out]; exact hown9) hg9 hv9
        rw [← HSU.out] at this; exact this
      refine hK.out _ _ (fun _ => ⟨hcB9, hM9⟩) ?_
      clear hK K hown9 hg9 hv9
      try simp only [Act.put, List.setIfInBounds_toArray, List.set_cons_zero, List.set_cons_succ]
      refine wpAnyT_one (i := 9) (o := _) rfl (by kernel_rfl) (fun K hK => ?_)
      go_simp
      refine hK.out _ _ (fun _ => ⟨hcB9, hM9⟩) ?_
      clear hK K
      try simp only [Act.put, List.setIfInBounds_toArray, List.set_cons_zero, List.set_cons_succ]
      refine wpAnyT_one (i := 10) (o := _) rfl (by kernel_rfl) (fun K hK => ?_)
      go_simp
      refine hK.out _ _ (fun h => absurd rfl h) ?_
      clear hK K
      refine wpAnyT_done (by kernel_rfl) ?_ _
      simp only [Exit.inBlock, Exit.then]
      go_wp2_with fail
      go_roundw
      case rel => exact ⟨k + 1, by omega, by go_num, _, _, HIN⟩
      case measure => simp [intOf]; omega
    · obtain rfl : k = g := by omega
      have hki : ¬ (k : Int) < (k : Int) := by omega
      have tq := HI.out.turn
      have cqr := cell_keepT cq (show w.heap.size < w6.heap.size by omega) tq (by omega)
      have cRr := cell_keepT cR (show w.heap.size + 1 < w6.heap.size by omega) tq (by omega)
      have fRr : wr.frozen? ⟨w.heap.size + 1, 0, none⟩ = false := by
        have e := tq.block (w.heap.size + 1) (by omega) (by omega)
        unfold World.frozen? at fR ⊢
        rw [e]; exact fR
      have hbr : Below w.heap.size w wr := tq.base HT06.out.to_below (by omega) (by omega)
      have HTR := Lib.hid (ht.below hbr h0)
      have hlow : ∀ x, (Value.slice Av nv cv).ownBlock = some x → lo ≤ x := fun x e => (HI.out.box.own.row.lt x e).1
      have hneB : (Value.slice Av nv cv).ownBlock ≠ some B := HI.out.box.ne
      have hneR : (Value.slice Av nv cv).ownBlock ≠ some (w.heap.size + 1) := fun e => by have := hlow _ e; omega
      have hpl : (locP d e k k).length = d + k := by simp [locP]
      have HROW0 : Hid (wr.ownsRow lo 24 1 (.slice Av nv cv) (d + k) vs) := by have := HI.out.box.own.row; rw [hpl] at this; exact this
      have HPL := Lib.hid hpl
      have HLE := Lib.hid (locM_eq k e q)
      rw [HDE.out] at HLE
      clear cR fR cq cg ce hpl
      go_wp2_with fail
      refine (cauchy_own q d _ HTR.out (by omega)).mono ?_
      rintro e' w7 ⟨v7, vs7, rfl, hM7, k7⟩
      rw [HR2.out] at hM7
      obtain ⟨g7, cp7, rfl, hg7, hg7', hcp7, hcp7'⟩ := hM7.sliceF (by omega)
      have s7 := k7.size
      have a8 := turn_alloc w7 (.cells #[.slice (some ⟨g7, 0, none⟩) q cp7] 70)
      have z8 := World.size_alloc w7 (.cells #[.slice (some ⟨g7, 0, none⟩) q cp7] 70)
      have c8 := alloc_cell w7 (.slice (some ⟨g7, 0, none⟩) q cp7) 70
      have k8 := turn_trans k7 a8 (by omega)
      have hcB8 := cell_turn k8 hcB (by omega)
      have hfB8 := frozen_turn k8 hfB (by omega)
      have HM8 := Lib.hid ((hM7.keep a8 (by omega)).wider (Nat.le_refl _) (show w7.heap.size ≤ w7.heap.size + 1 by omega) (by omega))
      have hyl : vs7.length = q := by have := hM7.vlen; simpa using this
      have HROW := Lib.hid (owns_turn HROW0.out (fun x e => HI.out.box.own.out x e) k8 (by omega))
      have HYS : Hid (∀ j y, vs7[j]? = some y → (w7.alloc (.cells #[.slice (some ⟨g7, 0, none⟩) q cp7] 70)).cell? ((⟨g7, 0, none⟩ : Addr).add j) = some y) := fun j y hj => by rw [Addr.add_lit, Nat.zero_add]; exact HM8.out.cellAt hj
      have HY1 := Lib.hid (rows_oneC hM7)
      clear hM7
      go_wp2_with (at_builtin; refine wpList_appendN rfl _ _ _ rfl lo 24 _ _ Tryd.underlying68 infoRowB rfl _ (d + k) vs rfl HROW.out ⟨g7, 0, none⟩ q cp7 vs7 rfl hyl HYS.out HY1.out ?c1 ?c2 ?c3 ?_)
      case c1 => omega
      case c2 => omega
      case c3 => omega
      intro v9 w9 hown9 hg9 hv9
      obtain ⟨A9, n9, c9, rfl⟩ := own_isSlice hown9
      have s9 := hg9.size
      have hJ := HI.out.box.join k8 HM8.out (by omega) (by omega) (by rw [HPL.out, mkM_length]; exact hown9) hg9 (by rw [z8]; exact hv9)
      rw [HLE.out] at hJ
      have hcB9 : w9.cell? ⟨B, 0, none⟩ = some (.slice Av nv cv) := (cell_past k8 hg9 hneB (by omega) 0).trans hcB
      have hfB9 : w9.frozen? ⟨B, 0, none⟩ = false := (frozen_past k8 hg9 hneB (by omega) 0).trans hfB
      have cR9 : w9.cell? ⟨w.heap.size + 1, 0, none⟩ = some (.slice none 0 0) := (cell_past k8 hg9 hneR (by omega) 0).trans cRr
      have fR9 : w9.frozen? ⟨w.heap.size + 1, 0, none⟩ = false := (frozen_past k8 hg9 hneR (by omega) 0).trans fRr
      have hb9 : Below w.heap.size w w9 := below_of_turn hbr k8 hg9 (fun x e => by have := hlow x e; omega)
      have hcB10 := hJ.cell
      have cR10 : (w9.setCell ⟨B, 0, none⟩ (.slice A9 n9 c9)).cell? ⟨w.heap.size + 1, 0, none⟩ = some (.slice none 0 0) := (cell_set_other w9 0 0 _ (by omega)).trans cR9
      have fR10 : (w9.setCell ⟨B, 0, none⟩ (.slice A9 n9 c9)).frozen? ⟨w.heap.size + 1, 0, none⟩ = false := (frozen_set_other w9 0 0 _ (by omega)).trans fR9
      have HJ := Lib.hid hJ
      clear hJ hown9 hg9 hv9
      go_wp2_with fail
      refine bodyPost_ret (v := .tuple #[.agg #[.slice A9 n9 c9], .bool true]) (by simp [results, Tryd.results44, go_sem, cR10]) rfl ?_
      have kk := turn_setCell (w9.setCell ⟨B, 0, none⟩ (.slice A9 n9 c9)) (w.heap.size + 1) 0 (.slice A9 n9 c9)
      have hb10 := (hb9.setCell (p := ⟨B, 0, none⟩) (show w.heap.size ≤ B by omega) (.slice A9 n9 c9)).setCell (p := ⟨w.heap.size + 1, 0, none⟩) (show w.heap.size ≤ w.heap.size + 1 by omega) (.slice A9 n9 c9)
      exact ⟨_, _, rfl, (HJ.out.own.keep kk (by omega)).wider (by omega) (by simp) (by simp), TurnIn.of_below hb10⟩

set_option maxRecDepth 100000 in
set_option maxHeartbeats 2000000 in
theorem localMatrix_no (g e q : Int) (w : World) (HL : Hid (locOk g e q = false)) :
    Calls Tryd.prog 44 #[locV g e q] w (RetMatOk 5 24 w [] false) := by
  have hb0 : TurnIn 0 0 w ((w.alloc (.cells #[.int .i64 g, .int .i64 e, .int .i64 q] 73)).alloc (.cells #[.slice none 0 0] 70)) := turn_trans (turn_alloc _ _) (turn_alloc _ _) (by omega)
  have hz0 : ((w.alloc (.cells #[.int .i64 g, .int .i64 e, .int .i64 q] 73)).alloc (.cells #[.slice none 0 0] 70)).heap.size = w.heap.size + 2 := by simp
  have cR : ((w.alloc (.cells #[.int .i64 g, .int .i64 e, .int .i64 q] 73)).alloc (.cells #[.slice none 0 0] 70)).cell? ⟨w.heap.size + 1, 0, none⟩ = some (.slice none 0 0) := by simp
  have fR : ((w.alloc (.cells #[.int .i64 g, .int .i64 e, .int .i64 q] 73)).alloc (.cells #[.slice none 0 0] 70)).frozen? ⟨w.heap.size + 1, 0, none⟩ = false := by simp
  have cg : ((w.alloc (.cells #[.int .i64 g, .int .i64 e, .int .i64 q] 73)).alloc (.cells #[.slice none 0 0] 70)).cell? ⟨w.heap.size, 0, none⟩ = some (.int .i64 g) := cell_turn (turn_alloc _ _) (alloc_tri0 _ _ _ _ _) (alloc_lt _ _)
  have ce : ((w.alloc (.cells #[.int .i64 g, .int .i64 e, .int .i64 q] 73)).alloc (.cells #[.slice none 0 0] 70)).cell? ⟨w.heap.size, 1, none⟩ = some (.int .i64 e) := cell_turn (turn_alloc _ _) (alloc_tri1 _ _ _ _ _) (alloc_lt _ _)
  have cq : ((w.alloc (.cells #[.int .i64 g, .int .i64 e, .int .i64 q] 73)).alloc (.cells #[.slice none 0 0] 70)).cell? ⟨w.heap.size, 2, none⟩ = some (.int .i64 q) := cell_turn (turn_alloc _ _) (alloc_tri2 _ _ _ _ _) (alloc_lt _ _)
  go_enter Tryd.func44, Tryd.ntmps44
  go_wp2_with fail
  refine (goodLocal_any g e q _).mono ?_
  rintro e' w1 ⟨rfl, k1⟩
  rw [HL.out]
  have s1 := k1.size
  replace cR := cell_turn k1 cR (by omega)
  replace fR := frozen_turn k1 fR (by omega)
  have hb1 := (turn_trans hb0 k1 (by omega)).to_below
  go_wp2_with fail
  refine bodyPost_ret (v := .tuple #[.agg #[.slice none 0 0], .bool false]) (by simp [results, Tryd.results44, go_sem, cR]) rfl ?_
  exact ⟨_, [], rfl, OwnM.nil _ _ _ _, TurnIn.of_below (hb1.setCell (show w.heap.size ≤ w.heap.size + 1 by omega) _)⟩

theorem localMatrix_own (g e q : Int) (w : World) (ht : Tab w) (h0 : 1 < w.heap.size) :
    Calls Tryd.prog 44 #[locV g e q] w (RetMatOk 5 24 w (locR g e q) (locOk g e q)) := by
  by_cases h : locOk g e q = true
  · have hb := locOk_b h
    obtain ⟨⟨hg, he⟩, hq, hd1, hd2⟩ := hb
    obtain ⟨g, rfl⟩ := Int.eq_ofNat_of_zero_le (show 0 ≤ g by omega)
    obtain ⟨e, rfl⟩ := Int.eq_ofNat_of_zero_le (show 0 ≤ e by omega)
    obtain ⟨q, rfl⟩ := Int.eq_ofNat_of_zero_le (show 0 ≤ q by omega)
    rw [← Int.natCast_mul] at hd1 hd2
    rw [locR_yes h, h]
    exact localMatrix_good g e q (g * e) w (by omega) (by omega) (by omega) (by omega) rfl h ht h0
  · have h : locOk g e q = false := by simpa using h
    rw [locR_no h, h]
    exact localMatrix_no g e q w h

end Go.Proofs.YtlkoafnlklhaeaaDoor

/- LocalMatrix, the model's. -/
namespace G294
open Go Go.RowKit
/-- the row of the group that begins at z, after i of its ones -/
def onesP (z i : Nat) (j : Nat) : UInt8 := if z ≤ j ∧ j < z + i then 1 else 0
theorem onesP_zero (d z : Nat) : bys (mkRow d (onesP z 0)) = List.replicate d (.int .u8 0) := by
  refine List.ext_getElem (by simp [bys]) fun i h1 h2 => ?_
  have : onesP z 0 i = 0 := by unfold onesP; rw [if_neg (by omega)]
  simp [bys, mkRow, this]
theorem onesP_succ (d z i : Nat) : mkRow d (fun j => if j = z + i then 1 else onesP z i j) = mkRow d (onesP z (i + 1)) := mkRow_congr fun j _ => by
  unfold onesP
  by_cases h : j = z + i
  · rw [if_pos h, if_pos (by omega)]
  · rw [if_neg h]
    by_cases h2 : z ≤ j ∧ j < z + i
    · rw [if_pos h2, if_pos (by omega)]
    · rw [if_neg h2, if_neg (by omega)]
end G294
namespace Go.Proofs.YtlkoafnlklhaeaaDoor
open Go.RowKit Go.Maps G294

set_option maxRecDepth 100000 in
set_option maxHeartbeats 4000000 in
theorem l4Matrix_own (g e q d : Nat) (w : World) (hg : 1 ≤ g ∧ g ≤ 4) (he : 1 ≤ e ∧ e ≤ 4) (hq : 1 ≤ q ∧ q ≤ 4) (hd : 1 ≤ d ∧ d ≤ 8) (HDE : Hid (g * e = d)) :
    Calls Tryd.prog 102 #[locV g e q] w (RetMat 5 24 w (locM g e q)) := by
  obtain ⟨i0, hi0, hz0', hz1, hz2⟩ := info_parts infoByte
  have hb0 : TurnIn 0 0 w ((w.alloc (.cells #[.int .i64 g, .int .i64 e, .int .i64 q] 73)).alloc (.cells #[.slice none 0 0] 70)) := turn_trans (turn_alloc _ _) (turn_alloc _ _) (by omega)
  have hz0 : ((w.alloc (.cells #[.int .i64 g, .int .i64 e, .int .i64 q] 73)).alloc (.cells #[.slice none 0 0] 70)).heap.size = w.heap.size + 2 := by simp
  have cR : ((w.alloc (.cells #[.int .i64 g, .int .i64 e, .int .i64 q] 73)).alloc (.cells #[.slice none 0 0] 70)).cell? ⟨w.heap.size + 1, 0, none⟩ = some (.slice none 0 0) := by simp
  have fR : ((w.alloc (.cells #[.int .i64 g, .int .i64 e, .int .i64 q] 73)).alloc (.cells #[.slice none 0 0] 70)).frozen? ⟨w.heap.size + 1, 0, none⟩ = false := by simp
  have cg : ((w.alloc (.cells #[.int .i64 g, .int .i64 e, .int .i64 q] 73)).alloc (.cells #[.slice none 0 0] 70)).cell? ⟨w.heap.size, 0, none⟩ = some (.int .i64 g) := cell_turn (turn_alloc _ _) (alloc_tri0 _ _ _ _ _) (alloc_lt _ _)
  have ce : ((w.alloc (.cells #[.int .i64 g, .int .i64 e, .int .i64 q] 73)).alloc (.cells #[.slice none 0 0] 70)).cell? ⟨w.heap.size, 1, none⟩ = some (.int .i64 e) := cell_turn (turn_alloc _ _) (alloc_tri1 _ _ _ _ _) (alloc_lt _ _)
  have cq : ((w.alloc (.cells #[.int .i64 g, .int .i64 e, .int .i64 q] 73)).alloc (.cells #[.slice none 0 0] 70)).cell? ⟨w.heap.size, 2, none⟩ = some (.int .i64 q) := cell_turn (turn_alloc _ _) (alloc_tri2 _ _ _ _ _) (alloc_lt _ _)
  have HGE : Hid ((g : Int) * (e : Int) = (d : Int)) := by show _ = _; rw [← Int.natCast_mul, HDE.out]
  obtain ⟨hg1, hg2⟩ := hg
  obtain ⟨he1, he2⟩ := he
  obtain ⟨hq1, hq2⟩ := hq
  obtain ⟨hd1, hd2⟩ := hd
  go_enter Tryd.func102, Tryd.ntmps102
  go_wp2_with fail
  refine (l4Data_any (g : Int) (e : Int) (q : Int) _ (by rw [HGE.out]; omega)).mono ?_
  rintro e' w2 ⟨rfl, k2⟩
  rw [HGE.out]
  have s2 := k2.size
  replace cR := cell_turn k2 cR (by omega)
  replace fR := frozen_turn k2 fR (by omega)
  replace cg := cell_turn k2 cg (by omega)
  replace ce := cell_turn k2 ce (by omega)
  replace cq := cell_turn k2 cq (by omega)
  go_wp2_with fail
  refine (l2Identity_own d _ hd1 (by omega)).mono ?_
  rintro e' w3 ⟨v3, vs3, rfl, hM3, k3⟩
  obtain ⟨A3, n3, c3, rfl⟩ := hM3.isSlice
  have s3 := k3.size
  have hMB := MatBox.new hM3 70
  have a3 := turn_alloc w3 (.cells #[.slice A3 n3 c3] 70)
  have z3 := World.size_alloc w3 (.cells #[.slice A3 n3 c3] 70)
  have k4 := turn_trans k3 a3 (by omega)
  replace cR := cell_turn k4 cR (by omega)
  replace fR := frozen_turn k4 fR (by omega)
  replace cg := cell_turn k4 cg (by omega)
  replace ce := cell_turn k4 ce (by omega)
  replace cq := cell_turn k4 cq (by omega)
  have HT06 : Hid (TurnIn 0 0 w (w3.alloc (.cells #[.slice A3 n3 c3] 70))) := turn_trans (turn_trans hb0 k2 (by omega)) k4 (by omega)
  have hI0 : LocInv 5 24 w2.heap.size w3.heap.size (w3.alloc (.cells #[.slice A3 n3 c3] 70)) (locP d e g 0) (.slice A3 n3 c3) vs3 (w3.alloc (.cells #[.slice A3 n3 c3] 70)) := ⟨(locP_zero d e g) ▸ hMB, ⟨rfl, rfl, rfl, Nat.le_refl _, fun _ _ _ => rfl⟩, fun x hx => .inl (hM3.out x hx)⟩
  have HI0 := Lib.hid hI0
  have hw2 : w.heap.size + 2 ≤ w2.heap.size := by omega
  have cB0 := hMB.cell
  clear hI0 hMB hM3 k2 k3 k4 a3 hz0 hb0
  go_wp2_with fail
  generalize hw6 : (w3.alloc (.cells #[.slice A3 n3 c3] 70)) = w6 at *
  generalize hlo : w2.heap.size = lo at *
  generalize hBB : w3.heap.size = B at *
  have hz6 : B < w6.heap.size := by omega
  clear cB0 hw6 z3
  go_loopw [5] (fun i wr => ∃ k : Nat, k ≤ g ∧ i = .int .i64 k ∧ ∃ v vs, Hid (LocInv 5 24 lo B w6 (locP d e g k) v vs wr)) (fun i _ => g - (intOf i).toNat)
  case atStart => exact ⟨0, Nat.zero_le _, rfl, _, _, HI0⟩
  case round =>
    obtain ⟨k, hk, rfl, v, vs, HI⟩ := hrel
    clear HI0
    have hs := HI.out.turn.size
    have tq := HI.out.turn
    have cgr := cell_keepT cg (show w.heap.size < w6.heap.size by omega) tq (by omega)
    have cer := cell_keepT ce (show w.heap.size < w6.heap.size by omega) tq (by omega)
    have cqr := cell_keepT cq (show w.heap.size < w6.heap.size by omega) tq (by omega)
    have cRr := cell_keepT cR (show w.heap.size + 1 < w6.heap.size by omega) tq (by omega)
    have fRr : wr.frozen? ⟨w.heap.size + 1, 0, none⟩ = false := by
      have e := tq.block (w.heap.size + 1) (by omega) (by omega)
      unfold World.frozen? at fR ⊢
      rw [e]; exact fR
    have hcB := HI.out.box.cell
    have hfB := HI.out.box.fro
    have hlow : ∀ x, v.ownBlock = some x → lo ≤ x := fun x e => (HI.out.box.own.row.lt x e).1
    obtain ⟨Av, nv, cv, rfl⟩ := HI.out.box.own.isSlice
    have hneB : (Value.slice Av nv cv).ownBlock ≠ some B := HI.out.box.ne
    by_cases hlt : k < g
    · have hki : (k : Int) < (g : Int) := by omega
      have HSU := Lib.hid (locP_succ d e g k hlt)
      have hpl : (locP d e g k).length = d + k := by simp [locP]
      have HROW0 : Hid (wr.ownsRow lo 24 1 (.slice Av nv cv) (d + k) vs) := by have := HI.out.box.own.row; rw [hpl] at this; exact this
      have HPL := Lib.hid hpl
      obtain ⟨z, hz⟩ : ∃ z, z = k * e := ⟨_, rfl⟩
      have hze : z + e ≤ d := by
        rw [hz, ← HDE.out, ← Nat.succ_mul]; exact Nat.mul_le_mul_right _ hlt
      have hmu : (k : Int) * (e : Int) = (z : Int) := by rw [hz]; simp
      have HZ := Lib.hid hz
      clear hpl hz
      generalize wr = wo at *
      go_wp2_with (at_make; refine wpList_make_full _ rfl _ _ _ rfl wo.heap.size _ i0 _ 1 Tryd.underlying24 hi0 hz0' hz1 _ _ _ _ d rfl rfl rfl rfl ?b2 ?b3 ?b4 ?_)
      case b2 => rw [hz2]; omega
      case b3 => unfold maxLen; omega
      case b4 => exact Nat.le_refl _
      intro w4 hown4 hg4
      have hb4 : Below wo.heap.size wo w4 := below_of_grown hg4 (Nat.le_refl _) (by simp)
      rw [toList_madeCells_one] at hown4
      have HO4 : Hid (w4.ownsRow wo.heap.size 5 1 (.slice (some ⟨wo.heap.size, 0, none⟩) d d) d (bys (mkRow d (onesP z 0)))) := by show World.ownsRow _ _ _ _ _ _ _; rw [onesP_zero]; exact hown4
      clear hg4 hown4
      go_wp2_with fail
      go_loopw [7] (fun i wq => ∃ m : Nat, m ≤ e ∧ i = .int .i64 m ∧ wq.ownsRow wo.heap.size 5 1 (.slice (some ⟨wo.heap.size, 0, none⟩) d d) d (bys (mkRow d (onesP z m))) ∧ Below wo.heap.size wo wq)
        (fun i _ => e - (intOf i).toNat)
      case atStart => exact ⟨0, Nat.zero_le _, rfl, HO4.out, hb4⟩
      case round =>
        clear HO4 hb4
        obtain ⟨m, hm, rfl, hown, hb⟩ := hrel
        have hbs := hb.size
        have cerq := (hb.cell (p := ⟨w.heap.size, 1, none⟩) (show w.heap.size < wo.heap.size by omega)).trans cer
        by_cases hltm : m < e
        · have hmi : (m : Int) < (e : Int) := by omega
          have hzi : (z : Int) + (m : Int) < (d : Int) := by omega
          have hzn : z + m < d := by omega
          have hz0i : (0 : Int) ≤ (z : Int) + (m : Int) := by omega
          have hcast : ((z : Int) + (m : Int)).toNat = z + m := by omega
          obtain ⟨old, hold⟩ : ∃ y, (bys (mkRow d (onesP z m)))[z + m]? = some y := ⟨_, List.getElem?_eq_getElem (by simp [bys]; exact hzn)⟩
          have hco : wr.cell? ⟨wo.heap.size, z + m, none⟩ = some old := by rw [hown.cellAt (z + m) (by omega)]; exact hold
          have hfr := hown.frozenAt (z + m)
          have hst := (hown.stored (z + m) (.int .u8 ((1 : UInt8).toNat : Int))).1
          rw [bys_set1, mkRow_set] at hst
          have HST : Hid ((wr.setCell ⟨wo.heap.size, z + m, none⟩ (.int .u8 1)).ownsRow wo.heap.size 5 1 (.slice (some ⟨wo.heap.size, 0, none⟩) d d) d (bys (mkRow d (onesP z (m + 1))))) := by
            show World.ownsRow _ _ _ _ _ _ _
            rw [← onesP_succ]; exact hst
          clear hst hold
          go_wp2_with fail
          go_roundw
          case rel => exact ⟨m + 1, by omega, by go_num, HST.out, hb.setCell (Nat.le_refl _) _⟩
          case measure => simp [intOf]; omega
        · obtain rfl : m = e := by omega
          have hmi : ¬ (m : Int) < (m : Int) := by omega
          have k7 := TurnIn.of_below hb
          have HU : Hid (OwnBytes 5 wr wo.heap.size wr.heap.size (.slice (some ⟨wo.heap.size, 0, none⟩) d d) (mkRow d (onesF k m))) := by
            have e1 : mkRow d (onesP z m) = mkRow d (onesF k m) := mkRow_congr fun j _ => by unfold onesP onesF; rw [HZ.out]
            rw [e1] at hown
            exact ⟨by rw [mkRow_length]; exact hown, Nat.le_refl _, fun x hx => (hown.lt x hx).2⟩
          have a8 := turn_alloc wr (.cells #[.slice (some ⟨wo.heap.size, 0, none⟩) d d] 24)
          have z8 := World.size_alloc wr (.cells #[.slice (some ⟨wo.heap.size, 0, none⟩) d d] 24)
          have c8 := alloc_cell wr (.slice (some ⟨wo.heap.size, 0, none⟩) d d) 24
          have k8 := turn_trans k7 a8 (by omega)
          have hcB7 := cell_turn k7 hcB (by omega)
          have hcB8 := cell_turn k8 hcB (by omega)
          have HROW := Lib.hid (owns_turn HROW0.out (fun x e => HI.out.box.own.out x e) k8 (by omega))
          have HC8 := Lib.hid c8
          have HU8 := Lib.hid ((HU.out.keep a8 (by omega)).wider (Nat.le_refl _) (show wr.heap.size ≤ wr.heap.size + 1 by omega) (by omega))
          clear c8 hown
          go_wp2_with (at_builtin; refine wpList_append1 rfl _ _ _ rfl lo 24 _ _ Tryd.underlying68 infoRowB rfl _ (d + k) vs rfl HROW.out wr.heap.size (.slice (some ⟨wo.heap.size, 0, none⟩) d d) rfl HC8.out rfl ?f2 ?f3 ?f4 ?_)
          case f2 => omega
          try (case f3 => omega)
          case f4 => omega
          intro v9 w9 hown9 hg9 hv9
          obtain ⟨A9, n9, c9, rfl⟩ := own_isSlice hown9
          have s9 := hg9.size
          have hcB9 : w9.cell? ⟨B, 0, none⟩ = some (.slice Av nv cv) := (cell_past k8 hg9 hneB (by omega) 0).trans hcB
          have hfB9 : w9.frozen? ⟨B, 0, none⟩ = false := (frozen_past k8 hg9 hneB (by omega) 0).trans hfB
          have HIN : Hid (LocInv 5 24 lo B w6 (locP d m g (k + 1)) (.slice A9 n9 c9) (vs ++ [.slice (some ⟨wo.heap.size, 0, none⟩) d d]) (w9.setCell ⟨B, 0, none⟩ (.slice A9 n9 c9))) := by
            have := HI.out.next k8 HU8.out (by omega) (by omega) (by omega) (by omega) (by rw [HPL.out]; exact hown9) hg9 (by first | exact hv9 | (rw [z8]; exact hv9))
            rw [← HSU.out] at this; exact this
          clear hown9 hg9 hv9
          go_wp2_with fail
          go_roundw
          case rel => exact ⟨k + 1, by omega, by go_num, _, _, HIN⟩
          case measure => simp [intOf]; omega
    · obtain rfl : k = g := by omega
      have hki : ¬ (k : Int) < (k : Int) := by omega
      have hbr : Below w.heap.size w wr := tq.base HT06.out.to_below (by omega) (by omega)
      have hneR : (Value.slice Av nv cv).ownBlock ≠ some (w.heap.size + 1) := fun e => by have := hlow _ e; omega
      have hneL : (Value.slice Av nv cv).ownBlock ≠ some w.heap.size := fun e => by have := hlow _ e; omega
      have hpl : (locP d e k k).length = d + k := by simp [locP]
      have HROW0 : Hid (wr.ownsRow lo 24 1 (.slice Av nv cv) (d + k) vs) := by have := HI.out.box.own.row; rw [hpl] at this; exact this
      have HPL := Lib.hid hpl
      have HLE := Lib.hid (locM_eq k e q)
      rw [HDE.out] at HLE
      have hfd : ∀ (W : World) (x : Value), (Instr.field 70 (.agg #[x]) 0).run Tryd.prog W = .ok x W := fun W x => by simp [go_sem, Instr.field, asAgg, run_underlying Tryd.underlying70]
      clear cR fR cq cg ce hpl
      go_wp2_with fail
      have hS : (fun W : World => W.cell? ⟨B, 0, none⟩ = some (.slice Av nv cv) ∧ W.cell? ⟨w.heap.size, 2, none⟩ = some (.int .i64 q)) wr.drew := ⟨hcB, cqr⟩
      refine wp_region_tail (fun W : World => W.cell? ⟨B, 0, none⟩ = some (.slice Av nv cv) ∧ W.cell? ⟨w.heap.size, 2, none⟩ = some (.int .i64 q)) 9 (by kernel_rfl) ?_
      refine wpAnyT_take (i := 0) (oi := _) (v := ?v0) rfl (by kernel_rfl) (by kernel_rfl) (by kernel_rfl) (by kernel_rfl) (fun _ _ _ h => h) (Or.inl ⟨by rfl, ?hy0⟩) hS ?rest0
      case hy0 => (intro W hW; obtain ⟨e1, e2⟩ := hW; go_simp; try with_reducible rfl)
      simp only [Act.put, List.setIfInBounds_toArray, List.set_cons_zero, List.set_cons_succ]
      refine wpAnyT_take (i := 1) (oi := _) (v := ?v1) rfl (by kernel_rfl) (by kernel_rfl) (by kernel_rfl) (by kernel_rfl) (fun _ _ _ h => h) (Or.inl ⟨by rfl, ?hy1⟩) hS ?rest1
      case hy1 => (intro W hW; obtain ⟨e1, e2⟩ := hW; go_simp; try with_reducible rfl)
      simp only [Act.put, List.setIfInBounds_toArray, List.set_cons_zero, List.set_cons_succ]
      refine wpAnyT_take (i := 2) (oi := _) (v := ?v2) rfl (by kernel_rfl) (by kernel_rfl) (by kernel_rfl) (by kernel_rfl) (fun _ _ _ h => h) (Or.inl ⟨by rfl, ?hy2⟩) hS ?rest2
      case hy2 => (intro W hW; obtain ⟨e1, e2⟩ := hW; go_simp; try with_reducible rfl)
      simp only [Act.put, List.setIfInBounds_toArray, List.set_cons_zero, List.set_cons_succ]
      refine wpAnyT_take (i := 3) (oi := _) (v := ?v3) rfl (by kernel_rfl) (by kernel_rfl) (by kernel_rfl) (by kernel_rfl) (fun _ _ _ h => h) (Or.inl ⟨by rfl, ?hy3⟩) hS ?rest3
      case hy3 => (intro W hW; obtain ⟨e1, e2⟩ := hW; go_simp; try with_reducible rfl)
      simp only [Act.put, List.setIfInBounds_toArray, List.set_cons_zero, List.set_cons_succ]
      refine wpAnyT_take (i := 4) (oi := _) (v := ?v4) rfl (by kernel_rfl) (by kernel_rfl) (by kernel_rfl) (by kernel_rfl) (fun _ _ _ h => h) (Or.inl ⟨by rfl, ?hy4⟩) hS ?rest4
      case hy4 => (intro W hW; obtain ⟨e1, e2⟩ := hW; go_simp; try with_reducible rfl)
      simp only [Act.put, List.setIfInBounds_toArray, List.set_cons_zero, List.set_cons_succ]
      refine wpAnyT_one (i := 5) (o := _) rfl (by kernel_rfl) (fun K hK => ?_)
      go_simp
      refine (l2Cauchy_own q d _ hq1 hd1 (by omega) (by omega)).mono ?_
      rintro e' w7 ⟨v7, vs7, rfl, hM7, k7⟩
      replace k7 := undrew k7
      replace hM7 : OwnM 5 24 w7 wr.heap.size w7.heap.size v7 (mkM q d (cauF d)) vs7 := hM7
      obtain ⟨g7, cp7, rfl, hg7, hg7', hcp7, hcp7'⟩ := hM7.sliceF (by omega)
      have s7 := k7.size
      have hyl : vs7.length = q := by have := hM7.vlen; simpa using this
      have HROW := Lib.hid (owns_turn HROW0.out (fun x e => HI.out.box.own.out x e) k7 (by omega))
      have HYS : Hid (∀ j y, vs7[j]? = some y → w7.cell? ((⟨g7, 0, none⟩ : Addr).add j) = some y) := fun j y hj => by rw [Addr.add_lit, Nat.zero_add]; exact hM7.cellAt hj
      have HY1 := Lib.hid (rows_oneC hM7)
      have HM7 := Lib.hid hM7
      clear hM7
      refine hK.out _ _ (fun _ => ⟨cell_turn k7 hcB (by omega), cell_turn k7 cqr (by omega)⟩) ?_
      clear hK K hS
      try simp only [Act.put, List.setIfInBounds_toArray, List.set_cons_zero, List.set_cons_succ]
      refine wpAnyT_one (i := 6) (o := _) rfl (by kernel_rfl) (fun K hK => ?_)
      go_simp
      refine hK.out _ _ (fun _ => ⟨cell_turn k7 hcB (by omega), cell_turn k7 cqr (by omega)⟩) ?_
      clear hK K
      try simp only [Act.put, List.setIfInBounds_toArray, List.set_cons_zero, List.set_cons_succ]
      refine wpAnyT_one (i := 7) (o := _) rfl (by kernel_rfl) (fun K hK => ?_)
      refine step_appendN (by rfl) _ _ _ (by rfl) lo 24 _ _ Tryd.underlying68 infoRowB rfl _ (d + k) vs (by rfl) HROW.out ⟨g7, 0, none⟩ q cp7 vs7 (by rfl) hyl HYS.out HY1.out (by omega) (by omega) (by omega) ?_
      intro v9 w9 hown9 hg9 hv9
      obtain ⟨A9, n9, c9, rfl⟩ := own_isSlice hown9
      have s9 := hg9.size
      have hJ := HI.out.box.join k7 HM7.out (by omega) (by omega) (by rw [HPL.out, mkM_length]; exact hown9) hg9 hv9
      rw [HLE.out] at hJ
      have hcB9 : w9.cell? ⟨B, 0, none⟩ = some (.slice Av nv cv) := (cell_past k7 hg9 hneB (by omega) 0).trans hcB
      have hfB9 : w9.frozen? ⟨B, 0, none⟩ = false := (frozen_past k7 hg9 hneB (by omega) 0).trans hfB
      have cq9 : w9.cell? ⟨w.heap.size, 2, none⟩ = some (.int .i64 q) := (cell_past k7 hg9 hneL (by omega) 2).trans cqr
      have cR9 : w9.cell? ⟨w.heap.size + 1, 0, none⟩ = some (.slice none 0 0) := (cell_past k7 hg9 hneR (by omega) 0).trans cRr
      have fR9 : w9.frozen? ⟨w.heap.size + 1, 0, none⟩ = false := (frozen_past k7 hg9 hneR (by omega) 0).trans fRr
      have hb9 : Below w.heap.size w w9 := below_of_turn hbr k7 hg9 (fun x e => by have := hlow x e; omega)
      have hcB10 := hJ.cell
      have cR10 : (w9.setCell ⟨B, 0, none⟩ (.slice A9 n9 c9)).cell? ⟨w.heap.size + 1, 0, none⟩ = some (.slice none 0 0) := (cell_set_other w9 0 0 _ (by omega)).trans cR9
      have fR10 : (w9.setCell ⟨B, 0, none⟩ (.slice A9 n9 c9)).frozen? ⟨w.heap.size + 1, 0, none⟩ = false := (frozen_set_other w9 0 0 _ (by omega)).trans fR9
      have HJ := Lib.hid hJ
      refine hK.out _ _ (fun _ => ⟨hcB9, cq9⟩) ?_
      clear hK K hown9 hg9 hv9 hJ
      try simp only [Act.put, List.setIfInBounds_toArray, List.set_cons_zero, List.set_cons_succ]
      refine wpAnyT_one (i := 8) (o := _) rfl (by kernel_rfl) (fun K hK => ?_)
      go_simp
      refine hK.out _ _ (fun _ => ⟨hcB9, cq9⟩) ?_
      clear hK K
      try simp only [Act.put, List.setIfInBounds_toArray, List.set_cons_zero, List.set_cons_succ]
      refine wpAnyT_one (i := 9) (o := _) rfl (by kernel_rfl) (fun K hK => ?_)
      go_simp
      refine hK.out _ _ (fun h => absurd rfl h) ?_
      clear hK K
      refine wpAnyT_done (by kernel_rfl) ?_ _
      simp only [Exit.inBlock, Exit.then]
      go_wp2_with fail
      refine bodyPost_ret (v := .agg #[.slice A9 n9 c9]) (by simp [results, Tryd.results102, go_sem, cR10]) rfl ?_
      have kk := turn_setCell (w9.setCell ⟨B, 0, none⟩ (.slice A9 n9 c9)) (w.heap.size + 1) 0 (.slice A9 n9 c9)
      have hb10 := (hb9.setCell (p := ⟨B, 0, none⟩) (show w.heap.size ≤ B by omega) (.slice A9 n9 c9)).setCell (p := ⟨w.heap.size + 1, 0, none⟩) (show w.heap.size ≤ w.heap.size + 1 by omega) (.slice A9 n9 c9)
      exact ⟨_, _, rfl, (HJ.out.own.keep kk (by omega)).wider (by omega) (by simp) (by simp), TurnIn.of_below hb10⟩

set_option maxRecDepth 100000 in
set_option maxHeartbeats 2000000 in
theorem sLocalMatrix_own (g e q : Int) (w : World) : Calls Tryd.prog 42 #[locV g e q] w (RetMatOk 5 24 w (locR g e q) (locOk g e q)) := by
  have hb0 : TurnIn 0 0 w ((w.alloc (.cells #[.int .i64 g, .int .i64 e, .int .i64 q] 73)).alloc (.cells #[.slice none 0 0] 70)) := turn_trans (turn_alloc _ _) (turn_alloc _ _) (by omega)
  have hz0 : ((w.alloc (.cells #[.int .i64 g, .int .i64 e, .int .i64 q] 73)).alloc (.cells #[.slice none 0 0] 70)).heap.size = w.heap.size + 2 := by simp
  have cR : ((w.alloc (.cells #[.int .i64 g, .int .i64 e, .int .i64 q] 73)).alloc (.cells #[.slice none 0 0] 70)).cell? ⟨w.heap.size + 1, 0, none⟩ = some (.slice none 0 0) := by simp
  have fR : ((w.alloc (.cells #[.int .i64 g, .int .i64 e, .int .i64 q] 73)).alloc (.cells #[.slice none 0 0] 70)).frozen? ⟨w.heap.size + 1, 0, none⟩ = false := by simp
  have cg : ((w.alloc (.cells #[.int .i64 g, .int .i64 e, .int .i64 q] 73)).alloc (.cells #[.slice none 0 0] 70)).cell? ⟨w.heap.size, 0, none⟩ = some (.int .i64 g) := cell_turn (turn_alloc _ _) (alloc_tri0 _ _ _ _ _) (alloc_lt _ _)
  have ce : ((w.alloc (.cells #[.int .i64 g, .int .i64 e, .int .i64 q] 73)).alloc (.cells #[.slice none 0 0] 70)).cell? ⟨w.heap.size, 1, none⟩ = some (.int .i64 e) := cell_turn (turn_alloc _ _) (alloc_tri1 _ _ _ _ _) (alloc_lt _ _)
  have cq : ((w.alloc (.cells #[.int .i64 g, .int .i64 e, .int .i64 q] 73)).alloc (.cells #[.slice none 0 0] 70)).cell? ⟨w.heap.size, 2, none⟩ = some (.int .i64 q) := cell_turn (turn_alloc _ _) (alloc_tri2 _ _ _ _ _) (alloc_lt _ _)
  by_cases h : locOk g e q = true
  · have hb := locOk_b h
    have HL := Lib.hid h
    obtain ⟨⟨hg, he⟩, hq, hd1, hd2⟩ := hb
    obtain ⟨g, rfl⟩ := Int.eq_ofNat_of_zero_le (show 0 ≤ g by omega)
    obtain ⟨e, rfl⟩ := Int.eq_ofNat_of_zero_le (show 0 ≤ e by omega)
    obtain ⟨q, rfl⟩ := Int.eq_ofNat_of_zero_le (show 0 ≤ q by omega)
    rw [← Int.natCast_mul] at hd1 hd2
    have HR := Lib.hid (locR_yes h)
    clear h
    go_enter Tryd.func42, Tryd.ntmps42
    go_wp2_with fail
    refine (sGoodLocal_any (g : Int) (e : Int) (q : Int) _).mono ?_
    rintro e' w1 ⟨rfl, k1⟩
    rw [HL.out]
    have s1 := k1.size
    replace cR := cell_turn k1 cR (by omega)
    replace fR := frozen_turn k1 fR (by omega)
    replace cg := cell_turn k1 cg (by omega)
    replace ce := cell_turn k1 ce (by omega)
    replace cq := cell_turn k1 cq (by omega)
    have hb1 := (turn_trans hb0 k1 (by omega)).to_below
    go_wp2_with fail
    refine (l4Matrix_own g e q (g * e) _ (by omega) (by omega) (by omega) (by omega) rfl).mono ?_
    rintro e' w2 ⟨v', vs', rfl, hM, k2⟩
    obtain ⟨A', n', c', rfl⟩ := hM.isSlice
    have hs2 := k2.size
    replace cR := cell_turn k2 cR (by omega)
    replace fR := frozen_turn k2 fR (by omega)
    have HF := Lib.hid (ret_store hb1 hM k2 (w.heap.size + 1) 0 (by omega) (by omega) (.slice A' n' c'))
    clear hM k2 hb0 hb1
    go_wp2_with fail
    refine bodyPost_ret (v := .tuple #[.agg #[.slice A' n' c'], .bool true]) (by simp [results, Tryd.results42, go_sem, cR]) rfl ?_
    exact ⟨.slice A' n' c', vs', by rw [HL.out], by rw [HR.out]; exact HF.out.1, HF.out.2⟩
  · have HL : Hid (locOk g e q = false) := by show locOk g e q = false; simpa using h
    have HR := Lib.hid (locR_no HL.out)
    clear h
    go_enter Tryd.func42, Tryd.ntmps42
    go_wp2_with fail
    refine (sGoodLocal_any g e q _).mono ?_
    rintro e' w1 ⟨rfl, k1⟩
    rw [HL.out]
    have s1 := k1.size
    replace cR := cell_turn k1 cR (by omega)
    replace fR := frozen_turn k1 fR (by omega)
    have hb1 := (turn_trans hb0 k1 (by omega)).to_below
    go_wp2_with fail
    refine bodyPost_ret (v := .tuple #[.agg #[.slice none 0 0], .bool false]) (by simp [results, Tryd.results42, go_sem, cR]) rfl ?_
    exact ⟨_, [], by rw [HL.out], by rw [HR.out]; exact OwnM.nil _ _ _ _, TurnIn.of_below (hb1.setCell (show w.heap.size ≤ w.heap.size + 1 by omega) _)⟩

end Go.Proofs.YtlkoafnlklhaeaaDoor

/- Two matrices beside each other, whose rows are replaced by new ones. -/
namespace G294
open Go Go.RowKit
structure Two (E EE : TypeId) (w : World) (lo g1 g2 n p1 p2 : Nat) (A B : Mat) (vs us : List Value) : Prop where
  o1 : w.ownsRow lo EE 1 (.slice (some ⟨g1, 0, none⟩) n p1) n vs
  o2 : w.ownsRow lo EE 1 (.slice (some ⟨g2, 0, none⟩) n p2) n us
  ne : g1 ≠ g2
  r1 : ∀ (i : Nat) (u : Value), vs[i]? = some u → OwnBytes E w lo w.heap.size u (A.getD i []) ∧ u.ownBlock ≠ some g1 ∧ u.ownBlock ≠ some g2
  r2 : ∀ (i : Nat) (u : Value), us[i]? = some u → OwnBytes E w lo w.heap.size u (B.getD i []) ∧ u.ownBlock ≠ some g1 ∧ u.ownBlock ≠ some g2
def ApartL (vs : List Value) : Prop := ∀ (i j : Nat) (u u' : Value) (g : Nat), vs[i]? = some u → vs[j]? = some u' → u.ownBlock = some g → u'.ownBlock = some g → i = j
section
variable {E EE : TypeId} {w w' : World} {lo g1 g2 n p1 p2 : Nat} {A B : Mat} {vs us : List Value}
theorem Two.flip (h : Two E EE w lo g1 g2 n p1 p2 A B vs us) : Two E EE w lo g2 g1 n p2 p1 B A us vs :=
  ⟨h.o2, h.o1, h.ne.symm, fun i u hu => ⟨(h.r2 i u hu).1, (h.r2 i u hu).2.2, (h.r2 i u hu).2.1⟩, fun i u hu => ⟨(h.r1 i u hu).1, (h.r1 i u hu).2.2, (h.r1 i u hu).2.1⟩⟩
theorem Two.keep (h : Two E EE w lo g1 g2 n p1 p2 A B vs us) (t : TurnIn 0 0 w w') : Two E EE w' lo g1 g2 n p1 p2 A B vs us :=
  ⟨owns_turn h.o1 (fun g e => (h.o1.lt g e).2) t (by omega), owns_turn h.o2 (fun g e => (h.o2.lt g e).2) t (by omega), h.ne,
    fun i u hu => ⟨((h.r1 i u hu).1.keep t (by omega)).wider (Nat.le_refl _) t.size (Nat.le_refl _), (h.r1 i u hu).2⟩,
    fun i u hu => ⟨((h.r2 i u hu).1.keep t (by omega)).wider (Nat.le_refl _) t.size (Nat.le_refl _), (h.r2 i u hu).2⟩⟩
theorem Two.put (h : Two E EE w lo g1 g2 n p1 p2 A B vs us) (k : Nat) (hk : k < A.length) {u : Value} {r : List UInt8} (hu : OwnBytes E w lo w.heap.size u r) (n1 : u.ownBlock ≠ some g1) (n2 : u.ownBlock ≠ some g2) :
    Two E EE (w.setCell ⟨g1, k, none⟩ u) lo g1 g2 n p1 p2 (A.set k r) B (vs.set k u) us := by
  have hst := h.o1.stored k u
  have hold : ∀ (x : Value) (l : List UInt8), OwnBytes E w lo w.heap.size x l → x.ownBlock ≠ some g1 → OwnBytes E (w.setCell ⟨g1, k, none⟩ u) lo (w.setCell ⟨g1, k, none⟩ u).heap.size x l :=
    fun x l hx hn => (hx.other hst.2 (fun g' e e2 => hn (e.trans e2.symm))).wider (Nat.le_refl _) (by simp) (by simp)
  refine ⟨hst.1, own_other h.o2 hst.2 (fun g e e2 => h.ne (Option.some.inj (e2.trans e.symm))), h.ne, ?_, fun i x hx => ⟨hold x _ (h.r2 i x hx).1 (h.r2 i x hx).2.1, (h.r2 i x hx).2⟩⟩
  intro i x hx
  rw [getD_set _ _ _ _ _ hk]
  rcases get_set hx with ⟨rfl, rfl⟩ | ⟨hne, hx⟩
  · rw [if_pos rfl]; exact ⟨hold _ _ hu n1, n1, n2⟩
  · rw [if_neg hne]; exact ⟨hold x _ (h.r1 i x hx).1 (h.r1 i x hx).2.1, (h.r1 i x hx).2⟩
theorem Two.congr {A' B' : Mat} (h : Two E EE w lo g1 g2 n p1 p2 A B vs us) (e1 : A = A') (e2 : B = B') : Two E EE w lo g1 g2 n p1 p2 A' B' vs us := e1 ▸ e2 ▸ h
theorem Two.of {lo1 hi1 lo2 hi2 : Nat} (h1 : OwnM E EE w lo1 hi1 (.slice (some ⟨g1, 0, none⟩) n p1) A vs) (h2 : OwnM E EE w lo2 hi2 (.slice (some ⟨g2, 0, none⟩) n p2) B us) (hd : hi1 ≤ lo2) (hl : lo ≤ lo1) (hA : A.length = n) (hB : B.length = n) (hl2 : lo ≤ lo2) :
    Two E EE w lo g1 g2 n p1 p2 A B vs us ∧ ApartL us := by
  have a1 := h1.out g1 rfl
  have a2 := (h2.row.lt g2 rfl).1
  refine ⟨⟨own_base (hA ▸ h1.row) hl, own_base (hB ▸ h2.row) hl2, by omega, fun i u hu => ?_, fun i u hu => ?_⟩, fun i j u u' g hi hj e e' => ((h2.apart i u g hi e).2 j u' hj e').symm⟩
  · exact ⟨(h1.rows i u hu).wider hl h1.top (Nat.le_refl _), fun e => (h1.apart i u g1 hu e).1 rfl, fun e => by have := (h1.rows i u hu).2.2 g2 e; omega⟩
  · exact ⟨(h2.rows i u hu).wider hl2 h2.top (Nat.le_refl _), fun e => by have := ((h2.rows i u hu).1.lt g1 e).1; omega, fun e => (h2.apart i u g2 hu e).1 rfl⟩
theorem Two.own2 (h : Two E EE w lo g1 g2 n p1 p2 A B vs us) (ha : ApartL us) (hB : B.length = n) : OwnM E EE w lo w.heap.size (.slice (some ⟨g2, 0, none⟩) n p2) B us :=
  ⟨hB.symm ▸ h.o2, Nat.le_refl _, fun g e => (h.o2.lt g e).2, fun i u hu => (h.r2 i u hu).1, fun i u g hu e => ⟨fun e2 => (h.r2 i u hu).2.2 (e.trans e2.symm), fun j u' hj e' => (ha i j u u' g hu hj e e').symm⟩⟩
/-- row i of the first -/
theorem Two.rowF {c : Nat} {F : Ents} (h : Two E EE w lo g1 g2 n p1 p2 (mkM n c F) B vs us) (i : Nat) (hi : i < n) (hc : 0 < c) : ∃ b cc, vs[i]? = some (.slice (some ⟨b, 0, none⟩) c cc) ∧ b < w.heap.size ∧ c ≤ cc ∧ cc ≤ maxLen ∧
    w.cell? ⟨g1, i, none⟩ = some (.slice (some ⟨b, 0, none⟩) c cc) ∧ OwnBytes E w lo w.heap.size (.slice (some ⟨b, 0, none⟩) c cc) (mkRow c (F i)) ∧ ∀ j, j < c → w.cell? ⟨b, j, none⟩ = some (.int .u8 ((F i j).toNat : Int)) := by
  have hl := h.o1.1
  have e : vs[i]? = some (vs[i]'(by omega)) := List.getElem?_eq_getElem (by omega)
  generalize vs[i]'(by omega) = u at e
  have ho := (h.r1 i u e).1
  rw [mkM_getD _ _ _ _ hi] at ho
  obtain ⟨b, cc, rfl, h1, h2, h3, h4⟩ := ho.slice (by simpa using hc)
  rw [mkRow_length] at ho e h3
  have hcell := h.o1.cells (g := g1) rfl i _ e
  rw [Addr.add_lit, Nat.zero_add] at hcell
  refine ⟨b, cc, e, h2, h3, h4, hcell, ho, fun j hj => ?_⟩
  have := ho.cellAt (k := j) (by simpa using hj)
  rwa [mkRow_getD _ _ _ hj] at this
theorem Two.at1 (h : Two E EE w lo g1 g2 n p1 p2 A B vs us) {i : Nat} {u : Value} (hu : vs[i]? = some u) : w.cell? ⟨g1, i, none⟩ = some u := by
  have hcell := h.o1.cells (g := g1) rfl i _ hu
  rwa [Addr.add_lit, Nat.zero_add] at hcell
theorem Two.some1 (h : Two E EE w lo g1 g2 n p1 p2 A B vs us) {i : Nat} (hi : i < n) : ∃ u, w.cell? ⟨g1, i, none⟩ = some u := by
  have hl := h.o1.1
  exact ⟨_, h.at1 (List.getElem?_eq_getElem (by omega))⟩
/-- what is beside stays when a row is put -/
theorem Two.side (h : Two E EE w lo g1 g2 n p1 p2 A B vs us) (k : Nat) (u : Value) {x : Value} {l : List UInt8} (hx : OwnBytes E w lo w.heap.size x l) (hn : x.ownBlock ≠ some g1) : OwnBytes E (w.setCell ⟨g1, k, none⟩ u) lo (w.setCell ⟨g1, k, none⟩ u).heap.size x l :=
  (hx.other (h.o1.stored k u).2 (fun g' e e2 => hn (e.trans e2.symm))).wider (Nat.le_refl _) (by simp) (by simp)
/-- a new row is put -/
theorem Two.new (h : Two E EE w lo g1 g2 n p1 p2 A B vs us) (t : TurnIn 0 0 w w') {g c cc : Nat} {r : List UInt8} (ho : OwnBytes E w' w.heap.size w'.heap.size (.slice (some ⟨g, 0, none⟩) c cc) r) (hg : w.heap.size ≤ g) (hlo : lo ≤ w.heap.size) (k : Nat) (hk : k < A.length) :
    Two E EE (w'.setCell ⟨g1, k, none⟩ (.slice (some ⟨g, 0, none⟩) c cc)) lo g1 g2 n p1 p2 (A.set k r) B (vs.set k (.slice (some ⟨g, 0, none⟩) c cc)) us := by
  have a1 := (h.o1.lt g1 rfl).2
  have a2 := (h.o2.lt g2 rfl).2
  exact (h.keep t).put k hk (ho.wider hlo (Nat.le_refl _) (Nat.le_refl _)) (by simp [Value.ownBlock]; omega) (by simp [Value.ownBlock]; omega)
theorem Two.fresh (h : Two E EE w lo g1 g2 n p1 p2 A B vs us) {g c cc : Nat} (hg : w.heap.size ≤ g) : ∀ (i : Nat) (x : Value) (g' : Nat), us[i]? = some x → x.ownBlock = some g' → (Value.slice (some ⟨g, 0, none⟩) c cc).ownBlock ≠ some g' := by
  intro i x g' hx e e2
  have := (h.r2 i x hx).1.2.2 g' e
  simp [Value.ownBlock] at e2
  omega
theorem row_own {w w' : World} {c : Nat} {v : Value} {f : Nat → UInt8} (ho : OwnBytes E w' w.heap.size w'.heap.size v (mkRow c f)) (hc : 0 < c) : ∃ g cc, v = .slice (some ⟨g, 0, none⟩) c cc ∧ w.heap.size ≤ g ∧ g < w'.heap.size := by
  obtain ⟨g, cc, e, h1, h2, _⟩ := ho.slice (by simpa using hc)
  exact ⟨g, cc, by simpa using e, h1, h2⟩
theorem Two.frz (h : Two E EE w lo g1 g2 n p1 p2 A B vs us) (k : Nat) : w.frozen? ⟨g1, k, none⟩ = false := h.o1.frozenAt k
theorem ApartL.set (h : ApartL vs) (k : Nat) (u : Value) (hf : ∀ (i : Nat) (x : Value) (g : Nat), vs[i]? = some x → x.ownBlock = some g → u.ownBlock ≠ some g) : ApartL (vs.set k u) := by
  intro i j x x' g hi hj e e'
  rcases get_set hi with ⟨i1, i2⟩ | ⟨n1, hi2⟩ <;> rcases get_set hj with ⟨j1, j2⟩ | ⟨n2, hj2⟩
  · rw [i1, j1]
  · exact absurd (i2 ▸ e) (hf j x' g hj2 e')
  · exact absurd (j2 ▸ e') (hf i x g hi2 e)
  · exact h i j x x' g hi2 hj2 e e'
theorem ApartL.move (h : ApartL vs) (a k : Nat) {y : Value} (hy : vs[a]? = some y) (u : Value) (hf : ∀ (i : Nat) (x : Value) (g : Nat), vs[i]? = some x → x.ownBlock = some g → u.ownBlock ≠ some g) : ApartL ((vs.set k y).set a u) := by
  intro i j x x' g hi hj e e'
  rcases get_set hi with ⟨i1, i2⟩ | ⟨n1, hi2⟩ <;> rcases get_set hj with ⟨j1, j2⟩ | ⟨n2, hj2⟩
  · rw [i1, j1]
  · rcases get_set hj2 with ⟨j3, j4⟩ | ⟨n3, hj3⟩
    · exact absurd (i2 ▸ e) (hf a y g hy (j4 ▸ e'))
    · exact absurd (i2 ▸ e) (hf j x' g hj3 e')
  · rcases get_set hi2 with ⟨i3, i4⟩ | ⟨n3, hi3⟩
    · exact absurd (j2 ▸ e') (hf a y g hy (i4 ▸ e))
    · exact absurd (j2 ▸ e') (hf i x g hi3 e)
  · rcases get_set hi2 with ⟨i3, i4⟩ | ⟨n3, hi3⟩ <;> rcases get_set hj2 with ⟨j3, j4⟩ | ⟨n4, hj3⟩
    · rw [i3, j3]
    · exact absurd (h a j y x' g hy hj3 (i4 ▸ e) e').symm n2
    · exact absurd (h i a x y g hi3 hy e (j4 ▸ e')) n1
    · exact h i j x x' g hi3 hj3 e e'
end
/-- only the blocks g1 and g2 of those that were there may have turned -/
structure Off (g1 g2 : Nat) (w w' : World) : Prop where
  os : w'.os = w.os
  tape : w'.tape = w.tape
  output : w'.output = w.output
  size : w.heap.size ≤ w'.heap.size
  block : ∀ k, k < w.heap.size → k ≠ g1 → k ≠ g2 → w'.heap[k]? = w.heap[k]?
section
variable {w w1 w2 W : World} {g1 g2 N : Nat}
theorem Off.refl (w : World) : Off g1 g2 w w := ⟨rfl, rfl, rfl, Nat.le_refl _, fun _ _ _ _ => rfl⟩
theorem Off.turn (h : Off g1 g2 w w1) (t : TurnIn 0 0 w1 w2) : Off g1 g2 w w2 :=
  ⟨t.os.trans h.os, t.tape.trans h.tape, t.output.trans h.output, Nat.le_trans h.size t.size, fun k hk a b => (t.block k (by have := h.size; omega) (by omega)).trans (h.block k hk a b)⟩
theorem Off.set1 (h : Off g1 g2 w w1) (o : Nat) (x : Value) : Off g1 g2 w (w1.setCell ⟨g1, o, none⟩ x) :=
  ⟨h.os, h.tape, h.output, by simpa using h.size, fun k hk a b => (heap_setCell_other w1 ⟨g1, o, none⟩ k x (by intro e; simp at e; omega)).trans (h.block k hk a b)⟩
theorem Off.flip (h : Off g1 g2 w w1) : Off g2 g1 w w1 := ⟨h.os, h.tape, h.output, h.size, fun k hk a b => h.block k hk b a⟩
theorem Off.set2 (h : Off g1 g2 w w1) (o : Nat) (x : Value) : Off g1 g2 w (w1.setCell ⟨g2, o, none⟩ x) := (h.flip.set1 o x).flip
theorem Off.cell (h : Off g1 g2 w w1) {B o : Nat} {x : Value} (hc : w.cell? ⟨B, o, none⟩ = some x) (hB : B < w.heap.size) (n1 : B ≠ g1) (n2 : B ≠ g2) : w1.cell? ⟨B, o, none⟩ = some x := (World.cell?_of_block (h.block B hB n1 n2)).trans hc
theorem Off.frozen (h : Off g1 g2 w w1) {B o : Nat} {x : Bool} (hc : w.frozen? ⟨B, o, none⟩ = x) (hB : B < w.heap.size) (n1 : B ≠ g1) (n2 : B ≠ g2) : w1.frozen? ⟨B, o, none⟩ = x := (World.frozen?_of_block (h.block B hB n1 n2)).trans hc
theorem Off.below (h : Off g1 g2 w w1) (hb : Below N W w) (hN : N ≤ w.heap.size) (h1 : N ≤ g1) (h2 : N ≤ g2) : Below N W w1 :=
  ⟨h.os.trans hb.os, h.tape.trans hb.tape, h.output.trans hb.output, Nat.le_trans hb.size h.size, fun k hk => (h.block k (by omega) (by omega) (by omega)).trans (hb.block k hk)⟩
end
theorem scaleL_mk (s : UInt8) (c : Nat) (f : Nat → UInt8) : scaleL s (mkRow c f) = mkRow c (fun j => gmul s (f j)) := by
  simp [scaleL, mkRow]
theorem addL_mk (c : Nat) (f g : Nat → UInt8) : addL (mkRow c f) (mkRow c g) = mkRow c (fun j => f j ^^^ g j) := by
  apply List.ext_getElem (by simp [addL])
  intro n h1 h2
  simp [addL, mkRow]
/-- rows below k cleared -/
def ckF (a k : Nat) (fs : Nat → UInt8) (X : Ents) : Ents := fun i j => if i < k then clF a fs X i j else X i j
theorem ckF_a (a k : Nat) (fs : Nat → UInt8) (X : Ents) (j : Nat) : ckF a k fs X a j = X a j := by unfold ckF clF; split <;> simp
theorem ckF_k (a k : Nat) (fs : Nat → UInt8) (X : Ents) (j : Nat) : ckF a k fs X k j = X k j := by simp [ckF]
theorem ckF_zero (a : Nat) (fs : Nat → UInt8) (X : Ents) (n c : Nat) : mkM n c (ckF a 0 fs X) = mkM n c X := mkM_congr fun i j _ _ => by simp [ckF]
theorem ckF_all (a : Nat) (fs : Nat → UInt8) (X : Ents) (n c : Nat) : mkM n c (ckF a n fs X) = mkM n c (clF a fs X) := mkM_congr fun i j hi _ => by simp [ckF, hi]
theorem ckF_stay (a k : Nat) (fs : Nat → UInt8) (X : Ents) (n c : Nat) (h : k = a ∨ fs k = 0) : mkM n c (ckF a k fs X) = mkM n c (ckF a (k + 1) fs X) := mkM_congr fun i j _ _ => by
  unfold ckF
  by_cases h1 : i = k
  · subst h1
    simp only [Nat.lt_irrefl, if_false, Nat.lt_succ_self, if_true, clF]
    by_cases h2 : i = a
    · subst h2; simp
    · rcases h with h | h
      · exact absurd h h2
      · rw [if_neg h2, h, zero_gmul]; simp
  · by_cases h2 : i < k
    · simp [h2, show i < k + 1 by omega]
    · simp [h2, show ¬ i < k + 1 by omega]
theorem ckF_put (a k : Nat) (fs : Nat → UInt8) (X : Ents) (n c : Nat) (h : k ≠ a) : (mkM n c (ckF a k fs X)).set k (mkRow c fun j => X k j ^^^ gmul (fs k) (X a j)) = mkM n c (ckF a (k + 1) fs X) := by
  rw [mkM_set]
  refine mkM_congr fun i j _ _ => ?_
  unfold ckF
  by_cases h1 : i = k
  · subst h1
    simp [clF, h]
  · by_cases h2 : i < k
    · simp [h1, h2, show i < k + 1 by omega]
    · simp [h1, h2, show ¬ i < k + 1 by omega]
theorem ckF_put' (a k : Nat) (fs : Nat → UInt8) (X : Ents) (n c : Nat) (f : UInt8) (hf : f = fs k) (h : k ≠ a) : (mkM n c (ckF a k fs X)).set k (mkRow c fun j => ckF a k fs X k j ^^^ gmul f (ckF a k fs X a j)) = mkM n c (ckF a (k + 1) fs X) := by
  rw [← ckF_put a k fs X n c h]
  congr 1
  exact mkRow_congr fun j _ => by rw [ckF_k, ckF_a, hf]
theorem swap_put (n c a p : Nat) (s : UInt8) (F : Ents) : ((mkM n c F).set p (mkRow c (F a))).set a (mkRow c fun j => gmul s (F p j)) = mkM n c (scF a s (swF a p F)) := by
  rw [mkM_set, mkM_set]
  refine mkM_congr fun i j _ _ => ?_
  unfold scF swF sw
  by_cases h1 : i = a
  · subst h1; simp
  · by_cases h2 : i = p
    · subst h2; simp [h1]
    · simp [h1, h2]
end G294

/- goodVector and goodPair. -/
namespace Go.Proofs.YtlkoafnlklhaeaaDoor
open Go.RowKit G294

set_option maxHeartbeats 400000 in
theorem goodVector_any (v : Value) (l : List UInt8) (w : World) (hv : Seen w v (bys l)) :
    Calls Tryd.prog 160 #[v] w fun e w' => e = .returned (.bool (scaleOk l)) ∧ w = w' := by
  obtain ⟨A, c, rfl, hlc, hcm, hx⟩ := hv
  simp only [bys_length] at hlc ⊢
  unfold maxLen at hcm
  have HO : Hid (scaleOk l = decide (l.length ≤ 80)) := rfl
  generalize l.length = n at *
  go_enter Tryd.func160, Tryd.ntmps160
  go_wp2_with fail
  go_ret
  exact ⟨by rw [HO.out]; simp; omega, rfl⟩

set_option maxHeartbeats 400000 in
theorem goodPair_any (v u : Value) (l m : List UInt8) (w : World) (hv : Seen w v (bys l)) (hu : Seen w u (bys m)) :
    Calls Tryd.prog 144 #[v, u] w fun e w' => e = .returned (.bool (pairOk l m)) ∧ w = w' := by
  have hv0 := hv
  obtain ⟨A, c, rfl, hlc, hcm, hx⟩ := hv
  obtain ⟨A', c', rfl, hlc', hcm', hx'⟩ := hu
  rw [bys_length] at hlc hlc' hv0
  simp only [bys_length]
  unfold maxLen at hcm hcm'
  clear hx hx'
  have HP : Hid (pairOk l m = (scaleOk l && decide (l.length = m.length))) := by
    show pairOk l m = _
    simp [pairOk, scaleOk]
  by_cases h1 : scaleOk l = true
  · have H1 := Lib.hid h1
    clear h1
    by_cases h2 : l.length = m.length
    · have hbn : ((l.length : Int) == (m.length : Int)) = true := by simp; omega
      have H2 := Lib.hid h2
      clear h2
      go_enter Tryd.func144, Tryd.ntmps144
      go_wp2_with fail
      refine (goodVector_any _ l _ hv0).mono ?_
      rintro e w' ⟨rfl, rfl⟩
      rw [H1.out]
      go_wp2_with fail
      go_ret
      exact ⟨by rw [HP.out, H1.out]; simp [H2.out], rfl⟩
    · have hbn : ((l.length : Int) == (m.length : Int)) = false := by simp; omega
      have H2 := Lib.hid h2
      clear h2
      go_enter Tryd.func144, Tryd.ntmps144
      go_wp2_with fail
      refine (goodVector_any _ l _ hv0).mono ?_
      rintro e w' ⟨rfl, rfl⟩
      rw [H1.out]
      go_wp2_with fail
      go_ret
      exact ⟨by rw [HP.out, H1.out]; simp [H2.out], rfl⟩
  · have H1 : Hid (scaleOk l = false) := by show scaleOk l = false; simpa using h1
    clear h1
    go_enter Tryd.func144, Tryd.ntmps144
    go_wp2_with fail
    refine (goodVector_any _ l _ hv0).mono ?_
    rintro e w' ⟨rfl, rfl⟩
    rw [H1.out]
    go_wp2_with fail
    go_ret
    exact ⟨by rw [HP.out, H1.out]; rfl, rfl⟩

end Go.Proofs.YtlkoafnlklhaeaaDoor
