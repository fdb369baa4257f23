/- groupsOf, sortedGroups and GroupOf, the program's. -/
import Derived.Test.YtlkoafnlklhaeaaDoorGrpMem
import Derived.Test.YtlkoafnlklhaeaaDoorMem
import Derived.Test.YtlkoafnlklhaeaaDoorOpenLoc
import Derived.Test.YtlkoafnlklhaeaaDoorBoxes
import Derived.Test.YtlkoafnlklhaeaaDoorTailHeld
import Derived.Deep.RegionHeld3
import Derived.IntWalk
set_option linter.unusedSimpArgs false
set_option linter.unusedVariables false
namespace Go.Proofs.YtlkoafnlklhaeaaDoor
open Go.RowKit Go.Maps G294

theorem infoIntG : (Tryd.prog.info? 3).map (fun i => (i.zero, i.size, i.bytes)) = some (some (.int .i64 0), 1, 8) := by kernel_rfl

theorem zeroInts (w : World) : (zeroValue 97).run Tryd.prog w = .ok (.slice none 0 0) w := by kernel_rfl

theorem lawInt : Keyed Tryd.prog 3 := int_keyed Tryd.underlying3

/-- the groups of a code are returned -/
def RetGroups (w : World) (f : Int → List Int) (n : Nat) (e : Ending) (w' : World) : Prop := ∃ (B : Nat) (D : DataW Unit), e = .returned (.map (some B)) ∧ w.heap.size ≤ B ∧ w'.ownsGroups Tryd.prog 3 (B + 1) 3 .i64 B n D ∧ Groups D f ∧ TurnIn 0 0 w w'

set_option maxRecDepth 100000 in
set_option maxHeartbeats 2000000 in
theorem groupsOf_own (g e q : Nat) (w : World) (hg : 1 ≤ g ∧ g ≤ 4) (he : 1 ≤ e ∧ e ≤ 4) :
    Calls Tryd.prog 106 #[.agg #[.int .i64 g, .int .i64 e, .int .i64 q]] w (RetGroups w (grp2 (g * e) e g) (g * e + g)) := by
  have hmm := @run_makeMap Tryd.prog
  have hbd := mul_bd (a := (g : Int)) (b := (e : Int)) (by omega) (by omega)
  have a1 := turn_alloc w (.cells #[.int .i64 g, .int .i64 e, .int .i64 q] 73)
  have z1 := World.size_alloc w (.cells #[.int .i64 g, .int .i64 e, .int .i64 q] 73)
  have cg : (w.alloc (.cells #[.int .i64 g, .int .i64 e, .int .i64 q] 73)).cell? ⟨w.heap.size, 0, none⟩ = some (.int .i64 g) := by simp
  have ce : (w.alloc (.cells #[.int .i64 g, .int .i64 e, .int .i64 q] 73)).cell? ⟨w.heap.size, 1, none⟩ = some (.int .i64 e) := by simp
  have cq : (w.alloc (.cells #[.int .i64 g, .int .i64 e, .int .i64 q] 73)).cell? ⟨w.heap.size, 2, none⟩ = some (.int .i64 q) := by simp
  have hge : (g : Int) * (e : Int) = ((g * e : Nat) : Int) := by simp
  rw [hge] at hbd
  have HGE := Lib.hid hge
  clear hge
  go_enter Tryd.func106, Tryd.ntmps106
  go_wp2_with fail
  generalize (w.alloc (.cells #[.int .i64 g, .int .i64 e, .int .i64 q] 73)) = w0 at *
  have hz0 : w.heap.size + 1 ≤ w0.heap.size := by omega
  have hz0' : w0.heap.size ≤ w.heap.size + 1 := by omega
  have HZ1 := Lib.hid z1
  have hM := World.ownsGroups_made (H := Unit) w0 Tryd.prog 3 3 .i64
  have kM := turn_alloc w0 (.map #[] 0)
  have zM := World.size_alloc w0 (.map #[] 0)
  clear z1
  generalize (w0.alloc (.map #[] 0)) = wM at *
  have hzM : w0.heap.size + 1 ≤ wM.heap.size := by omega
  clear zM
  refine (localData_any (g : Int) (e : Int) (q : Int) _ (by rw [HGE.out]; exact hbd)).mono ?_
  rintro e' w2 ⟨rfl, k2⟩
  rw [HGE.out]
  have hM2 := ownsGroups_turn hM k2
  have hs2 := k2.size
  have hb2 : Below w0.heap.size w0 w2 := (turn_trans kM k2 (by omega)).to_below
  generalize hd : g * e = d at *
  have HD := Lib.hid hd
  have hd16 : 1 ≤ d ∧ d ≤ 16 := by omega
  rw [HZ1.out] at hM2 hb2
  have HM2 := Lib.hid hM2
  clear hd hM kM hM2 k2 hbd
  go_wp2_with fail
  go_loopw [9] (fun i wr => ∃ k : Nat, k ≤ d ∧ i = .int .i64 k ∧ (∃ D : DataW Unit, wr.ownsGroups Tryd.prog 3 (w.heap.size + 1 + 1) 3 .i64 (w.heap.size + 1) k D ∧ Groups D (grp1 e k)) ∧ Below (w.heap.size + 1) w0 wr ∧ w.heap.size + 1 + 1 ≤ wr.heap.size)
    (fun i _ => d - (intOf i).toNat)
  case atStart => exact ⟨0, Nat.zero_le _, rfl, ⟨_, HM2.out, Groups.start.congr (fun j => by simp [grp1])⟩, hb2, by omega⟩
  case round =>
    obtain ⟨k, hk, rfl, ⟨D, hown, hG⟩, hb, hws⟩ := hrel
    have cE := (hb.cell (p := ⟨w.heap.size, 1, none⟩) (show w.heap.size < w.heap.size + 1 by omega)).trans ce
    by_cases hlt : k < d
    · have hki : (k : Int) < (d : Int) := by omega
      have hkb : k / e ≤ k := Nat.div_le_self _ _
      obtain ⟨j, hj⟩ : ∃ j : Nat, k / e = j := ⟨_, rfl⟩
      rw [hj] at hkb
      have hq : (k : Int) / (e : Int) = (j : Int) := by rw [← hj]; simp
      have hqw : IntKind.i64.wrap (j : Int) = (j : Int) := IntWalk.i64_in _ (by omega)
      have hwf : (Lit.int .i64 (j : Int)).wf = true := WalkArith.wf_i64 (by omega)
      obtain ⟨v, zs, hrun, hat, hoi, hzl, hback⟩ := groups_look hown lawInt Tryd.underlying141 zeroInts (by unfold maxLen; omega) (keyOf_int_mk Tryd.underlying3 hwf)
      have hzs := hG.looked hat hoi
      obtain ⟨A, n', c', rfl⟩ := own_isSlice hoi.1
      have HROW : Hid ((wr.drew.alloc (.cells #[.int .i64 k] 3)).ownsRow (w.heap.size + 1 + 1) 3 1 (.slice A n' c') zs.length (zs.map (Value.int .i64))) := (show wr.drew.ownsRow _ _ _ _ _ _ from hoi.1).alloc _
      have HCN : Hid ((wr.drew.alloc (.cells #[.int .i64 k] 3)).cell? ⟨wr.heap.size, 0, none⟩ = some (.int .i64 k)) := alloc_cell wr.drew _ _
      have cE1 : (wr.drew.alloc (.cells #[.int .i64 k] 3)).cell? ⟨w.heap.size, 1, none⟩ = some (.int .i64 e) := cell_keepT (show wr.drew.cell? _ = _ from cE) (show w.heap.size < wr.heap.size by omega) (turn_alloc _ _) (by omega)
      have HG := Lib.hid hG
      have HOI := Lib.hid hoi
      have HBK := Lib.hid hback
      have HRUN := Lib.hid hrun
      have HZS := Lib.hid hzs
      have HJ := Lib.hid hj
      have HBL := Lib.hid hb
      have he0 : (0 : Int) < (e : Int) := by omega
      have hen0 : ¬ e = 0 := by omega
      have hen : ¬ (e : Int) = 0 := by omega
      have heb : ((e : Int) == 0) = false := by simpa using hen
      clear hoi hback hzs hat hrun hown hwf hj
      go_wp2_with fail
      have hS : (fun W : World => W.cell? ⟨w.heap.size, 1, none⟩ = some (.int .i64 e) ∧ W.heap[w.heap.size + 1]? = wr.heap[w.heap.size + 1]?) wr.drew := ⟨cE, rfl⟩
      have hblk : w.heap.size + 1 < wr.heap.size := by omega
      refine wp_region_tail (fun W : World => W.cell? ⟨w.heap.size, 1, none⟩ = some (.int .i64 e) ∧ W.heap[w.heap.size + 1]? = wr.heap[w.heap.size + 1]?) 14 (by kernel_rfl) ?_
      refine wpAnyT_take (i := 0) (oi := _) (v := ?v0) rfl (by kernel_rfl) (by kernel_rfl) (by kernel_rfl) (by kernel_rfl) (fun _ _ _ h => h) (Or.inl ⟨by rfl, ?hy0⟩) hS ?rest0
      case hy0 => (intro W hW; obtain ⟨e1, e2⟩ := hW; go_simp; try with_reducible rfl)
      simp only [Act.put, List.setIfInBounds_toArray, List.set_cons_zero, List.set_cons_succ]
      refine wpAnyT_take (i := 1) (oi := _) (v := ?v1) rfl (by kernel_rfl) (by kernel_rfl) (by kernel_rfl) (by kernel_rfl) (fun _ _ _ h => h) (Or.inl ⟨by rfl, ?hy1⟩) hS ?rest1
      case hy1 => (intro W hW; obtain ⟨e1, e2⟩ := hW; go_simp; try with_reducible rfl)
      simp only [Act.put, List.setIfInBounds_toArray, List.set_cons_zero, List.set_cons_succ]
      refine wpAnyT_take (i := 2) (oi := _) (v := ?v2) rfl (by kernel_rfl) (by kernel_rfl) (by kernel_rfl) (by kernel_rfl) (fun _ _ _ h => h) (Or.inl ⟨by rfl, ?hy2⟩) hS ?rest2
      case hy2 => (intro W hW; obtain ⟨e1, e2⟩ := hW; go_simp; try with_reducible rfl)
      simp only [Act.put, List.setIfInBounds_toArray, List.set_cons_zero, List.set_cons_succ]
      refine wpAnyT_take (i := 3) (oi := _) (v := ?v3) rfl (by kernel_rfl) (by kernel_rfl) (by kernel_rfl) (by kernel_rfl) (fun _ _ _ h => h) (Or.inl ⟨by rfl, ?hy3⟩) hS ?rest3
      case hy3 => (intro W hW; obtain ⟨e1, e2⟩ := hW; go_simp; try with_reducible rfl)
      simp only [Act.put, List.setIfInBounds_toArray, List.set_cons_zero, List.set_cons_succ]
      refine wpAnyT_take (i := 4) (oi := _) (v := ?v4) rfl (by kernel_rfl) (by kernel_rfl) (by kernel_rfl) (by kernel_rfl) (fun _ _ _ h => h) (Or.inl ⟨by rfl, ?hy4⟩) hS ?rest4
      case hy4 => (intro W hW; obtain ⟨e1, e2⟩ := hW; go_simp; try with_reducible rfl)
      simp only [Act.put, List.setIfInBounds_toArray, List.set_cons_zero, List.set_cons_succ]
      refine wpAnyT_take (i := 5) (oi := _) (v := ?v5) rfl (by kernel_rfl) (by kernel_rfl) (by kernel_rfl) (by kernel_rfl) (fun _ _ _ h => h) (Or.inl ⟨by rfl, ?hy5⟩) hS ?rest5
      case hy5 => (intro W hW; obtain ⟨e1, e2⟩ := hW; go_simp; try with_reducible rfl)
      simp only [Act.put, List.setIfInBounds_toArray, List.set_cons_zero, List.set_cons_succ]
      refine wpAnyT_take (i := 6) (oi := _) (v := ?v6) rfl (by kernel_rfl) (by kernel_rfl) (by kernel_rfl) (by kernel_rfl) (fun _ _ _ h => h) (Or.inl ⟨by rfl, ?hy6⟩) hS ?rest6
      case hy6 => (intro W hW; obtain ⟨e1, e2⟩ := hW; go_simp; try with_reducible rfl)
      simp only [Act.put, List.setIfInBounds_toArray, List.set_cons_zero, List.set_cons_succ]
      refine wpAnyT_take (i := 7) (oi := _) (v := ?v7) rfl (by kernel_rfl) (by kernel_rfl) (by kernel_rfl) (by kernel_rfl) (fun _ _ _ h => h) (Or.inl ⟨by rfl, ?hy7⟩) hS ?rest7
      case hy7 => (intro W hW; obtain ⟨e1, e2⟩ := hW; go_simp; try with_reducible rfl)
      simp only [Act.put, List.setIfInBounds_toArray, List.set_cons_zero, List.set_cons_succ]
      refine wpAnyT_take (i := 8) (oi := _) (v := ?v8) rfl (by kernel_rfl) (by kernel_rfl) (by kernel_rfl) (by kernel_rfl) (fun _ _ _ h => h) (Or.inl ⟨by rfl, ?hy8⟩) hS ?rest8
      case hy8 => (intro W hW; obtain ⟨e1, e2⟩ := hW; go_simp; try with_reducible rfl)
      simp only [Act.put, List.setIfInBounds_toArray, List.set_cons_zero, List.set_cons_succ]
      refine wpAnyT_take (i := 9) (oi := _) (v := ?v9) rfl (by kernel_rfl) (by kernel_rfl) (by kernel_rfl) (by kernel_rfl) (fun _ _ _ h => h) (Or.inl ⟨by rfl, ?hy9⟩) hS ?rest9
      case hy9 => (intro W hW; obtain ⟨e1, e2⟩ := hW; go_simp; try with_reducible rfl)
      simp only [Act.put, List.setIfInBounds_toArray, List.set_cons_zero, List.set_cons_succ]
      refine wpAnyT_take (i := 10) (oi := _) (v := ?v10) rfl (by kernel_rfl) (by kernel_rfl) (by kernel_rfl) (by kernel_rfl) (fun _ _ _ h => h) (Or.inl ⟨by rfl, ?hy10⟩) hS ?rest10
      case hy10 => (intro W hW; obtain ⟨e1, e2⟩ := hW; have hrw := HRUN.out W e2; go_simp; try with_reducible rfl)
      simp only [Act.put, List.setIfInBounds_toArray, List.set_cons_zero, List.set_cons_succ]
      refine wpAnyT_take (i := 11) (oi := _) (v := ?v11) rfl (by kernel_rfl) (by kernel_rfl) (by kernel_rfl) (by kernel_rfl) (fun _ _ _ h => h) (Or.inl ⟨by rfl, ?hy11⟩) hS ?rest11
      case hy11 => (intro W hW; obtain ⟨e1, e2⟩ := hW; go_simp; try with_reducible rfl)
      simp only [Act.put, List.setIfInBounds_toArray, List.set_cons_zero, List.set_cons_succ]
      refine wpAnyT_one (i := 12) (o := _) rfl (by kernel_rfl) (fun K hK => ?_)
      go_simp
      refine hK.out _ _ (fun _ => ⟨cE1, Below.heap_alloc _ _ _ hblk⟩) ?_
      clear hK K hS
      try simp only [Act.put, List.setIfInBounds_toArray, List.set_cons_zero, List.set_cons_succ]
      refine wpAnyT_one (i := 13) (o := _) rfl (by kernel_rfl) (fun K hK => ?_)
      refine step_append1 (by rfl) _ _ _ (by rfl) (w.heap.size + 1 + 1) 3 _ _ Tryd.underlying97 infoIntG rfl _ zs.length _ (by rfl) HROW.out wr.heap.size (.int .i64 k) (by rfl) HCN.out rfl (by omega) (by omega) (by simp; omega) ?_
      intro v' w1 hown' hgrow hloc
      have hall : wr.grownBy w1 (Value.slice A n' c').ownBlock := by
        have h := (World.grownBy_alloc wr.drew (.cells #[.int .i64 k] 3) (Value.slice A n' c').ownBlock).trans hgrow
        exact ⟨h.os, h.tape, h.output, h.size, h.block⟩
      have hne : ∀ x, x < w.heap.size + 1 + 1 → (Value.slice A n' c').ownBlock ≠ some x := fun x hx e' => by have := (HOI.out.1.lt x e').1; omega
      have cE2 : w1.cell? ⟨w.heap.size, 1, none⟩ = some (.int .i64 e) := hall.cell cE (fun e' => hne w.heap.size (by omega) e'.symm)
      have hm2 : w1.heap[w.heap.size + 1]? = wr.heap[w.heap.size + 1]? := hall.block _ hblk (fun e' => hne (w.heap.size + 1) (by omega) e'.symm)
      have happ := HOI.out.appended hown' (WalkArith.wf_i64 (by omega))
      obtain ⟨w3, hru, hown3, hgrow3⟩ := HBK.out w1 v' (zs ++ [(k : Int)]) hall happ (by simp; omega) (hloc.imp id (fun h => ⟨_, h, by simp⟩))
      have hG3 := HG.out.put (j := (j : Int)) (x := (k : Int)) (by rw [← HZS.out]; exact happ)
      rw [← HZS.out] at hG3
      have hb3 : Below (w.heap.size + 1) w0 w3 := HBL.out.groups HOI.out hall hgrow3 (by omega) (by omega) (by omega)
      have hs3 : wr.heap.size ≤ w3.heap.size := Nat.le_trans hall.size hgrow3.size
      refine hK.out _ _ (fun _ => ⟨cE2, hm2⟩) ?_
      clear hK K
      try simp only [Act.put, List.setIfInBounds_toArray, List.set_cons_zero, List.set_cons_succ]
      refine wpAnyT_one (i := 14) (o := _) rfl (by kernel_rfl) (fun K hK => ?_)
      go_simp
      refine hK.out _ _ (fun h => absurd rfl h) ?_
      clear hK K hru
      refine wpAnyT_done (by kernel_rfl) ?_ _
      simp only [Exit.inBlock, Exit.then]
      go_wp2_with fail
      go_roundw
      case rel => exact ⟨k + 1, by omega, by go_num, ⟨_, hown3, hG3.congr (fun i => by rw [grp1_succ, HJ.out, HZS.out])⟩, hb3, by omega⟩
      case measure => simp [intOf]; omega
    · obtain rfl : k = d := by omega
      have hki : ¬ (k : Int) < (k : Int) := by omega
      have cG := (hb.cell (p := ⟨w.heap.size, 0, none⟩) (show w.heap.size < w.heap.size + 1 by omega)).trans cg
      go_wp2_with fail
      have HOWN := Lib.hid hown
      have HGG := Lib.hid hG
      have HBB := Lib.hid hb
      have hwr := hws
      clear hown hG hb cE
      go_loopw [29] (fun i wr => ∃ m : Nat, m ≤ g ∧ i = .int .i64 m ∧ (∃ D : DataW Unit, wr.ownsGroups Tryd.prog 3 (w.heap.size + 1 + 1) 3 .i64 (w.heap.size + 1) (k + m) D ∧ Groups D (grp2 k e m)) ∧ Below (w.heap.size + 1) w0 wr ∧ w.heap.size + 1 + 1 ≤ wr.heap.size)
        (fun i _ => g - (intOf i).toNat)
      case atStart => exact ⟨0, Nat.zero_le _, rfl, ⟨_, HOWN.out, HGG.out.congr (fun j => by rw [grp2_zero])⟩, HBB.out, hwr⟩
      case round =>
        clear HOWN HGG HBB hws hwr
        obtain ⟨m, hm, rfl, ⟨D, hown, hG⟩, hb, hws⟩ := hrel
        have c0 := (hb.cell (p := ⟨w.heap.size, 0, none⟩) (show w.heap.size < w.heap.size + 1 by omega)).trans cg
        have c1 := (hb.cell (p := ⟨w.heap.size, 1, none⟩) (show w.heap.size < w.heap.size + 1 by omega)).trans ce
        have c2 := (hb.cell (p := ⟨w.heap.size, 2, none⟩) (show w.heap.size < w.heap.size + 1 by omega)).trans cq
        by_cases hlt : m < g
        · have hmi : (m : Int) < (g : Int) := by omega
          have hwf : (Lit.int .i64 (m : Int)).wf = true := WalkArith.wf_i64 (by omega)
          obtain ⟨v, zs, hrun, hat, hoi, hzl, hback⟩ := groups_look hown lawInt Tryd.underlying141 zeroInts (by unfold maxLen; omega) (keyOf_int_mk Tryd.underlying3 hwf)
          have hzs := hG.looked hat hoi
          obtain ⟨A, n', c', rfl⟩ := own_isSlice hoi.1
          have HG := Lib.hid hG
          have HOI := Lib.hid hoi
          have HBK := Lib.hid hback
          have HRUN := Lib.hid hrun
          have HZS := Lib.hid hzs
          have HBL := Lib.hid hb
          have hsw : IntKind.i64.wrap ((k : Int) + (m : Int)) = ((k + m : Nat) : Int) := by rw [IntWalk.i64_in _ (by omega)]; omega
          clear hoi hback hzs hat hrun hown hwf hG hb
          go_wp2_with fail
          have hS : (fun W : World => W.cell? ⟨w.heap.size, 0, none⟩ = some (.int .i64 g) ∧ W.cell? ⟨w.heap.size, 1, none⟩ = some (.int .i64 e) ∧ W.cell? ⟨w.heap.size, 2, none⟩ = some (.int .i64 q) ∧ W.heap[w.heap.size + 1]? = wr.heap[w.heap.size + 1]?) wr.drew := ⟨c0, c1, c2, rfl⟩
          have hblk : w.heap.size + 1 < wr.heap.size := by omega
          refine wp_region_tail (fun W : World => W.cell? ⟨w.heap.size, 0, none⟩ = some (.int .i64 g) ∧ W.cell? ⟨w.heap.size, 1, none⟩ = some (.int .i64 e) ∧ W.cell? ⟨w.heap.size, 2, none⟩ = some (.int .i64 q) ∧ W.heap[w.heap.size + 1]? = wr.heap[w.heap.size + 1]?) 11 (by kernel_rfl) ?_
          refine wpAnyT_take (i := 0) (oi := _) (v := ?vb0) rfl (by kernel_rfl) (by kernel_rfl) (by kernel_rfl) (by kernel_rfl) (fun _ _ _ h => h) (Or.inl ⟨by rfl, ?hyb0⟩) hS ?restb0
          case hyb0 => (intro W hW; obtain ⟨e1, e2, e3, e4⟩ := hW; go_simp; try with_reducible rfl)
          simp only [Act.put, List.setIfInBounds_toArray, List.set_cons_zero, List.set_cons_succ]
          refine wpAnyT_take (i := 1) (oi := _) (v := ?vb1) rfl (by kernel_rfl) (by kernel_rfl) (by kernel_rfl) (by kernel_rfl) (fun _ _ _ h => h) (Or.inl ⟨by rfl, ?hyb1⟩) hS ?restb1
          case hyb1 => (intro W hW; obtain ⟨e1, e2, e3, e4⟩ := hW; go_simp; try with_reducible rfl)
          simp only [Act.put, List.setIfInBounds_toArray, List.set_cons_zero, List.set_cons_succ]
          refine wpAnyT_take (i := 2) (oi := _) (v := ?vb2) rfl (by kernel_rfl) (by kernel_rfl) (by kernel_rfl) (by kernel_rfl) (fun _ _ _ h => h) (Or.inl ⟨by rfl, ?hyb2⟩) hS ?restb2
          case hyb2 => (intro W hW; obtain ⟨e1, e2, e3, e4⟩ := hW; go_simp; try with_reducible rfl)
          simp only [Act.put, List.setIfInBounds_toArray, List.set_cons_zero, List.set_cons_succ]
          refine wpAnyT_take (i := 3) (oi := _) (v := ?vb3) rfl (by kernel_rfl) (by kernel_rfl) (by kernel_rfl) (by kernel_rfl) (fun _ _ _ h => h) (Or.inl ⟨by rfl, ?hyb3⟩) hS ?restb3
          case hyb3 => (intro W hW; obtain ⟨e1, e2, e3, e4⟩ := hW; go_simp; try with_reducible rfl)
          simp only [Act.put, List.setIfInBounds_toArray, List.set_cons_zero, List.set_cons_succ]
          refine wpAnyT_take (i := 4) (oi := _) (v := ?vb4) rfl (by kernel_rfl) (by kernel_rfl) (by kernel_rfl) (by kernel_rfl) (fun _ _ _ h => h) (Or.inl ⟨by rfl, ?hyb4⟩) hS ?restb4
          case hyb4 => (intro W hW; obtain ⟨e1, e2, e3, e4⟩ := hW; have hrw := HRUN.out W e4; go_simp; try with_reducible rfl)
          simp only [Act.put, List.setIfInBounds_toArray, List.set_cons_zero, List.set_cons_succ]
          refine wpAnyT_take (i := 5) (oi := _) (v := ?vb5) rfl (by kernel_rfl) (by kernel_rfl) (by kernel_rfl) (by kernel_rfl) (fun _ _ _ h => h) (Or.inl ⟨by rfl, ?hyb5⟩) hS ?restb5
          case hyb5 => (intro W hW; obtain ⟨e1, e2, e3, e4⟩ := hW; go_simp; try with_reducible rfl)
          simp only [Act.put, List.setIfInBounds_toArray, List.set_cons_zero, List.set_cons_succ]
          refine wpAnyT_take (i := 7) (oi := _) (v := ?vb7) rfl (by kernel_rfl) (by kernel_rfl) (by kernel_rfl) (by kernel_rfl) (fun _ _ _ h => h) (Or.inl ⟨by rfl, ?hyb7⟩) hS ?restb7
          case hyb7 => (intro W hW; obtain ⟨e1, e2, e3, e4⟩ := hW; go_simp; try with_reducible rfl)
          simp only [Act.put, List.setIfInBounds_toArray, List.set_cons_zero, List.set_cons_succ]
          refine wpAnyT_one (i := 6) (o := _) rfl (by kernel_rfl) (fun K hK => ?_)
          go_simp
          refine (localData_any (g : Int) (e : Int) (q : Int) _ (by rw [HGE.out]; omega)).mono ?_
          rintro e' w4 ⟨rfl, k4⟩
          rw [HGE.out]
          replace k4 := undrew k4
          have hs4 := k4.size
          have d0 := cell_keepT c0 (show w.heap.size < wr.heap.size by omega) k4 (by omega)
          have d1 := cell_keepT c1 (show w.heap.size < wr.heap.size by omega) k4 (by omega)
          have d2 := cell_keepT c2 (show w.heap.size < wr.heap.size by omega) k4 (by omega)
          have hmp : w4.heap[w.heap.size + 1]? = wr.heap[w.heap.size + 1]? := k4.block _ hblk (by omega)
          refine hK.out _ _ (fun _ => ⟨d0, d1, d2, hmp⟩) ?_
          clear hK K hS
          try simp only [Act.put, List.setIfInBounds_toArray, List.set_cons_zero, List.set_cons_succ]
          have hS : (fun W : World => W.cell? ⟨w.heap.size, 0, none⟩ = some (.int .i64 g) ∧ W.cell? ⟨w.heap.size, 1, none⟩ = some (.int .i64 e) ∧ W.cell? ⟨w.heap.size, 2, none⟩ = some (.int .i64 q) ∧ W.heap[w.heap.size + 1]? = wr.heap[w.heap.size + 1]?) w4 := ⟨d0, d1, d2, hmp⟩
          refine wpAnyT_take (i := 8) (oi := _) (v := ?vb8) rfl (by kernel_rfl) (by kernel_rfl) (by kernel_rfl) (by kernel_rfl) (fun _ _ _ h => h) (Or.inl ⟨by rfl, ?hyb8⟩) hS ?restb8
          case hyb8 => (intro W hW; obtain ⟨e1, e2, e3, e4⟩ := hW; go_simp; try with_reducible rfl)
          simp only [Act.put, List.setIfInBounds_toArray, List.set_cons_zero, List.set_cons_succ, List.getElem_toArray, List.getElem_cons_succ, List.getElem_cons_zero]
          have d0' : (w4.alloc (.cells #[.int .i64 ((k : Int) + (m : Int))] 3)).cell? ⟨w.heap.size, 0, none⟩ = some (.int .i64 g) := cell_keepT d0 (show w.heap.size < w4.heap.size by omega) (turn_alloc _ _) (by omega)
          have d1' : (w4.alloc (.cells #[.int .i64 ((k : Int) + (m : Int))] 3)).cell? ⟨w.heap.size, 1, none⟩ = some (.int .i64 e) := cell_keepT d1 (show w.heap.size < w4.heap.size by omega) (turn_alloc _ _) (by omega)
          have d2' : (w4.alloc (.cells #[.int .i64 ((k : Int) + (m : Int))] 3)).cell? ⟨w.heap.size, 2, none⟩ = some (.int .i64 q) := cell_keepT d2 (show w.heap.size < w4.heap.size by omega) (turn_alloc _ _) (by omega)
          have hoi4 : w4.ownsInts (w.heap.size + 1 + 1) 3 .i64 (.slice A n' c') zs := HOI.out.kept (turn_grown k4) (by cases (Value.slice A n' c').ownBlock <;> simp)
          have HROW := Lib.hid (hoi4.1.alloc (.cells #[.int .i64 ((k : Int) + (m : Int))] 3))
          have HCN := Lib.hid (alloc_cell w4 (.int .i64 ((k : Int) + (m : Int))) 3)
          refine wpAnyT_one (i := 9) (o := _) rfl (by kernel_rfl) (fun K hK => ?_)
          go_simp
          refine hK.out _ _ (fun _ => ⟨d0', d1', d2', (Below.heap_alloc _ _ _ (show w.heap.size + 1 < w4.heap.size by omega)).trans hmp⟩) ?_
          clear hK K hS
          try simp only [Act.put, List.setIfInBounds_toArray, List.set_cons_zero, List.set_cons_succ]
          refine wpAnyT_one (i := 10) (o := _) rfl (by kernel_rfl) (fun K hK => ?_)
          refine step_append1 (by rfl) _ _ _ (by rfl) (w.heap.size + 1 + 1) 3 _ _ Tryd.underlying97 infoIntG rfl _ zs.length _ (by rfl) HROW.out w4.heap.size (.int .i64 ((k : Int) + (m : Int))) (by rfl) HCN.out rfl (by omega) (by omega) (by simp; omega) ?_
          intro v' w5 hown' hgrow hloc
          have hall4 : w4.grownBy w5 (Value.slice A n' c').ownBlock := (World.grownBy_alloc w4 (.cells #[.int .i64 ((k : Int) + (m : Int))] 3) (Value.slice A n' c').ownBlock).trans hgrow
          have hall : wr.grownBy w5 (Value.slice A n' c').ownBlock := ((turn_grown k4).but _).trans hall4
          have hne : ∀ x, x < w.heap.size + 1 + 1 → (Value.slice A n' c').ownBlock ≠ some x := fun x hx e' => by have := (HOI.out.1.lt x e').1; omega
          have f0 : w5.cell? ⟨w.heap.size, 0, none⟩ = some (.int .i64 g) := hall.cell c0 (fun e' => hne w.heap.size (by omega) e'.symm)
          have f1 : w5.cell? ⟨w.heap.size, 1, none⟩ = some (.int .i64 e) := hall.cell c1 (fun e' => hne w.heap.size (by omega) e'.symm)
          have f2 : w5.cell? ⟨w.heap.size, 2, none⟩ = some (.int .i64 q) := hall.cell c2 (fun e' => hne w.heap.size (by omega) e'.symm)
          have hm2 : w5.heap[w.heap.size + 1]? = wr.heap[w.heap.size + 1]? := hall.block _ hblk (fun e' => hne (w.heap.size + 1) (by omega) e'.symm)
          have happ := hoi4.appended hown' (WalkArith.wf_i64 (by omega))
          obtain ⟨w6, hru, hown3, hgrow3⟩ := HBK.out w5 v' (zs ++ [(k : Int) + (m : Int)]) hall happ (by simp; omega) (hloc.imp id (fun h => ⟨_, h, by simp; omega⟩))
          have hG3 := HG.out.put (j := (m : Int)) (x := (k : Int) + (m : Int)) (by rw [← HZS.out]; exact happ)
          rw [← HZS.out] at hG3
          have hb3 : Below (w.heap.size + 1) w0 w6 := HBL.out.groups HOI.out hall hgrow3 (by omega) (by omega) (by omega)
          have hs3 : wr.heap.size ≤ w6.heap.size := Nat.le_trans hall.size hgrow3.size
          refine hK.out _ _ (fun _ => ⟨f0, f1, f2, hm2⟩) ?_
          clear hK K
          try simp only [Act.put, List.setIfInBounds_toArray, List.set_cons_zero, List.set_cons_succ]
          refine wpAnyT_one (i := 11) (o := _) rfl (by kernel_rfl) (fun K hK => ?_)
          go_simp
          refine hK.out _ _ (fun h => absurd rfl h) ?_
          clear hK K hru
          refine wpAnyT_done (by kernel_rfl) ?_ _
          simp only [Exit.inBlock, Exit.then]
          go_wp2_with fail
          go_roundw
          case rel => exact ⟨m + 1, by omega, by go_num, ⟨_, hown3, hG3.congr (fun i => by rw [grp2_succ, HZS.out]; simp)⟩, hb3, by omega⟩
          case measure => simp [intOf]; omega
        · obtain rfl : m = g := by omega
          have hmi : ¬ (m : Int) < (m : Int) := by omega
          have HOWN := Lib.hid hown
          have HGG := Lib.hid hG
          have HBB := Lib.hid hb
          clear hown hG hb
          go_wp2_with fail
          go_ret
          refine ⟨w.heap.size + 1, D, rfl, by omega, HOWN.out, HGG.out, TurnIn.of_below ?_⟩
          exact a1.to_below.trans (HBB.out.mono (by omega))

end Go.Proofs.YtlkoafnlklhaeaaDoor
