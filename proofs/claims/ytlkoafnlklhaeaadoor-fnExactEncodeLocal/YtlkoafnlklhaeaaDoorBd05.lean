/- Joined texts: TailHeld, Group, SortLay, Sorted, GroupOf, GroupOD, GroupOE. -/
import Derived.Test.YtlkoafnlklhaeaaDoorBd00
import Derived.OrdersHeld
import Derived.StillTail
import Derived.Deep.RegionHeld
import Derived.Test.YtlkoafnlklhaeaaDoorBd04
import Derived.Test.YtlkoafnlklhaeaaDoorBd01
import Derived.Deep.RegionHeld3
import Derived.IntWalk
import Derived.Shelf.Sort.Plain
import Derived.Test.YtlkoafnlklhaeaaDoorProg
import Derived.Sort.OwnSortedInts
set_option linter.unusedSimpArgs false
set_option linter.unusedVariables false
/- Regions that draw their order and end in one operation that waits for all others: behind it nothing is asked of the cells that the loads read. -/
namespace G294
open Go Go.RowKit
section
variable {P : Program} {md : Region.Mode} {ops : Array Oper} {Q : Exit → Act → World → Prop} {S : World → Prop} {L : Nat}
/-- whatever comes up next; behind each operation but the last, L, S holds -/
def wpAnyT (P : Program) (md : Region.Mode) (ops : Array Oper) (Q : Exit → Act → World → Prop) (S : World → Prop) (L : Nat) : Nat → Array Bool → Act → World → Prop
  | 0, listed, a, w => Region.ready md ops listed = [] ∧ Q .normal a w
  | fuel + 1, listed, a, w =>
    (Region.ready md ops listed = [] → Q .normal a w) ∧
    ∀ i ∈ Region.ready md ops listed, wpOp P ops Q i (fun a' w' => (i ≠ L → S w') ∧ wpAnyT P md ops Q S L fuel (listed.setIfInBounds i true) a' w') a w
theorem wpAny_of_T : ∀ (fuel : Nat) (listed : Array Bool) (a : Act) (w : World), wpAnyT P md ops Q S L fuel listed a w → wpAny P md ops Q fuel listed a w
  | 0, _, _, _, h => h
  | fuel + 1, _, _, _, h => ⟨h.1, fun i hi => wpOp_mono (fun a' w' h' => wpAny_of_T fuel _ a' w' h'.2) (h.2 i hi)⟩
theorem not_ready {i j : Nat} {listed : Array Bool} (hw : Region.waitsFor md ops j i = true) (hi : i ∈ Region.ready md ops listed) : j ∉ Region.ready md ops listed := fun hj => by
  obtain ⟨oj, hoj, e, he, hb, hon⟩ := Region.waitsFor_spec hw
  obtain ⟨_, oj', hoj', hall⟩ := mem_ready.1 hj
  obtain rfl : oj' = oj := Option.some.inj (hoj'.symm.trans hoj)
  have h1 := hall e he hb
  have h0 := (mem_ready.1 hi).1
  rw [hon] at h1
  rcases Nat.lt_or_ge i listed.size with h' | h'
  · simp [h'] at h0 h1; rw [h0] at h1; cases h1
  · simp [Array.getElem?_eq_none h'] at h1
theorem wpAnyT_first {i : Nat} {oi : Oper} {v : Value} (hi : ops[i]? = some oi) (hsel : ∀ (j : Nat) (o : Oper) cs b, ops[j]? = some o → o.op ≠ .select cs b)
    (hQ : ∀ c a w, Q (.panic c) (a.put oi.dst v) w → Q (.panic c) a w) (hwl : Region.waitsFor md ops L i = true) :
    ∀ (fuel : Nat) (listed : Array Bool) (a : Act) (w : World),
      (∀ j oj, ops[j]? = some oj → j ≠ i → listed.getD j true = false → (∀ e ∈ oj.after, Region.binds md e = true → e.on ≠ i) → oi.apart ops oj = true) →
      i ∈ Region.ready md ops listed → YieldsIf P ops S oi v a → S w →
      wpAnyT P md ops Q S L fuel (listed.setIfInBounds i true) (a.put oi.dst v) w → wpAnyT P md ops Q S L (fuel + 1) listed a w := by
  intro fuel
  induction fuel with
  | zero =>
    intro listed a w _ hr hy hS H
    refine ⟨fun h => (by rw [h] at hr; cases hr), fun j hj => ?_⟩
    by_cases hji : j = i
    · subst hji; exact hy.wpOp hi hS ⟨fun _ => hS, H⟩
    · have h5 := ready_mono hj hji
      rw [H.1] at h5
      cases h5
  | succ fuel ih =>
    intro listed a w hfree hr hy hS H
    refine ⟨fun h => (by rw [h] at hr; cases hr), fun j hj => ?_⟩
    by_cases hji : j = i
    · subst hji; exact hy.wpOp hi hS ⟨fun _ => hS, H⟩
    · have hjL : j ≠ L := fun e => not_ready hwl hr (e ▸ hj)
      obtain ⟨hjun, oj, hoj, hall⟩ := mem_ready.1 hj
      have hnot : ∀ e ∈ oj.after, Region.binds md e = true → e.on ≠ i := fun e he hb heq => by
        have h1 := hall e he hb
        have h0 := (mem_ready.1 hr).1
        rw [heq] at h1
        rcases Nat.lt_or_ge i listed.size with h' | h'
        · simp [h'] at h0 h1; rw [h0] at h1; cases h1
        · simp [Array.getElem?_eq_none h'] at h1
      have h2 := wpOp_putIf hoj (hfree j oj hoj hji hjun hnot) (fun cs b => hsel i oi cs b hi) (fun cs b => hsel j oj cs b hoj) hQ hy (H.2 j (ready_mono hj hji))
      refine wpOp_mono (fun a' w' h3 => ⟨h3.2.1, ih (listed.setIfInBounds j true) a' w' (fun k ok hk hki hun hno => ?_) (ready_mono hr (Ne.symm hji)) h3.1 (h3.2.1 hjL) ?_⟩) h2
      · refine hfree k ok hk hki ?_ hno
        by_cases hjk : j = k
        · subst hjk; exact hjun
        · rw [getD_set_ne true hjk] at hun; exact hun
      · rw [Array.setIfInBounds_comm _ _ hji]
        exact h3.2.2
theorem wpAnyT_take {i : Nat} {oi : Oper} {v : Value} {fuel : Nat} {listed : Array Bool} {a : Act} {w : World} (hi : ops[i]? = some oi)
    (hs : Region.noSelect ops = true) (hf : Region.free md ops listed i = true) (hr : (Region.ready md ops listed).contains i = true) (hwl : Region.waitsFor md ops L i = true)
    (hQ : ∀ c a w, Q (.panic c) (a.put oi.dst v) w → Q (.panic c) a w) (hy : YieldsIf P ops S oi v a) (hS : S w)
    (h : wpAnyT P md ops Q S L fuel (listed.setIfInBounds i true) (a.put oi.dst v) w) : wpAnyT P md ops Q S L (fuel + 1) listed a w :=
  wpAnyT_first hi (Region.noSelect_spec hs) hQ hwl fuel listed a w (Region.free_spec hi hf) (by simpa using hr) hy hS h
/-- one operation alone may come up -/
theorem wpAnyT_one {i : Nat} {o : Oper} {fuel : Nat} {listed : Array Bool} {a : Act} {w : World} (ho : ops[i]? = some o) (hr : Region.ready md ops listed = [i])
    (h : ∀ K' : Act → World → Prop, Shut (∀ a w, (i ≠ L → S w) → wpAnyT P md ops Q S L fuel (listed.setIfInBounds i true) a w → K' a w) → if Region.wanted o (yielded ops a.tmps) = true then Oper.wp P o a w K' Q else K' (a.put o.dst undef) w) :
    wpAnyT P md ops Q S L (fuel + 1) listed a w :=
  ⟨fun h0 => (by rw [hr] at h0; cases h0), fun j hj => by
    rw [hr] at hj
    obtain rfl : j = i := by simpa using hj
    exact wpOp_step ho (fun K' hK => h K' (fun a w hS hW => hK a w ⟨hS, hW⟩))⟩
theorem wpAnyT_done {listed : Array Bool} {a : Act} {w : World} (hr : Region.ready md ops listed = []) (h : Q .normal a w) : ∀ fuel, wpAnyT P md ops Q S L fuel listed a w
  | 0 => ⟨hr, h⟩
  | _ + 1 => ⟨fun _ => h, by rw [hr]; simp⟩
theorem wp_region_tail {id : Nat} {a : Act} {w : World} (S : World → Prop) (L : Nat) (hm : P.follows .mixedOrders = true)
    (h : wpAnyT P .any ops Q S L ops.size (Array.replicate ops.size false) a w.drew) : (Code.region id ops true).wp P Q a w :=
  wp_region_any hm (wpAny_of_T _ _ _ _ h)
end
end G294

/- groupsOf, sortedGroups and GroupOf, the program's. -/
namespace Go.Proofs.YtlkoafnlklhaeaaDoor
open Go.RowKit Go.Maps G294

theorem infoIntG : (Tryd.prog.info? 3).map (fun i => (i.zero, i.size, i.bytes)) = some (some (.int .i64 0), 1, 8) := by kernel_rfl

theorem zeroInts (w : World) : (zeroValue 97).run Tryd.prog w = .ok (.slice none 0 0) w := by kernel_rfl

theorem lawInt : Keyed Tryd.prog 3 := int_keyed Tryd.underlying3

/-- the groups of a code are returned -/
def RetGroups (w : World) (f : Int → List Int) (n : Nat) (e : Ending) (w' : World) : Prop := ∃ (B : Nat) (D : DataW Unit), e = .returned (.map (some B)) ∧ w.heap.size ≤ B ∧ w'.ownsGroups Tryd.prog 3 (B + 1) 3 .i64 B n D ∧ Groups D f ∧ TurnIn 0 0 w w'

set_option maxRecDepth 100000 in
set_option maxHeartbeats 2000000 in
theorem groupsOf_own (g e q : Nat) (w : World) (hg : 1 ≤ g ∧ g ≤ 4) (he : 1 ≤ e ∧ e ≤ 4) :
    Calls Tryd.prog 106 #[.agg #[.int .i64 g, .int .i64 e, .int .i64 q]] w (RetGroups w (grp2 (g * e) e g) (g * e + g)) := by
  have hmm := @run_makeMap Tryd.prog
  have hbd := mul_bd (a := (g : Int)) (b := (e : Int)) (by omega) (by omega)
  have a1 := turn_alloc w (.cells #[.int .i64 g, .int .i64 e, .int .i64 q] 73)
  have z1 := World.size_alloc w (.cells #[.int .i64 g, .int .i64 e, .int .i64 q] 73)
  have cg : (w.alloc (.cells #[.int .i64 g, .int .i64 e, .int .i64 q] 73)).cell? ⟨w.heap.size, 0, none⟩ = some (.int .i64 g) := by simp
  have ce : (w.alloc (.cells #[.int .i64 g, .int .i64 e, .int .i64 q] 73)).cell? ⟨w.heap.size, 1, none⟩ = some (.int .i64 e) := by simp
  have cq : (w.alloc (.cells #[.int .i64 g, .int .i64 e, .int .i64 q] 73)).cell? ⟨w.heap.size, 2, none⟩ = some (.int .i64 q) := by simp
  have hge : (g : Int) * (e : Int) = ((g * e : Nat) : Int) := by simp
  rw [hge] at hbd
  have HGE := Lib.hid hge
  clear hge
  go_enter Tryd.func106, Tryd.ntmps106
  go_wp2_with fail
  generalize (w.alloc (.cells #[.int .i64 g, .int .i64 e, .int .i64 q] 73)) = w0 at *
  have hz0 : w.heap.size + 1 ≤ w0.heap.size := by omega
  have hz0' : w0.heap.size ≤ w.heap.size + 1 := by omega
  have HZ1 := Lib.hid z1
  have hM := World.ownsGroups_made (H := Unit) w0 Tryd.prog 3 3 .i64
  have kM := turn_alloc w0 (.map #[] 0)
  have zM := World.size_alloc w0 (.map #[] 0)
  clear z1
  generalize (w0.alloc (.map #[] 0)) = wM at *
  have hzM : w0.heap.size + 1 ≤ wM.heap.size := by omega
  clear zM
  refine (localData_any (g : Int) (e : Int) (q : Int) _ (by rw [HGE.out]; exact hbd)).mono ?_
  rintro e' w2 ⟨rfl, k2⟩
  rw [HGE.out]
  have hM2 := ownsGroups_turn hM k2
  have hs2 := k2.size
  have hb2 : Below w0.heap.size w0 w2 := (turn_trans kM k2 (by omega)).to_below
  generalize hd : g * e = d at *
  have HD := Lib.hid hd
  have hd16 : 1 ≤ d ∧ d ≤ 16 := by omega
  rw [HZ1.out] at hM2 hb2
  have HM2 := Lib.hid hM2
  clear hd hM kM hM2 k2 hbd
  go_wp2_with fail
  go_loopw [9] (fun i wr => ∃ k : Nat, k ≤ d ∧ i = .int .i64 k ∧ (∃ D : DataW Unit, wr.ownsGroups Tryd.prog 3 (w.heap.size + 1 + 1) 3 .i64 (w.heap.size + 1) k D ∧ Groups D (grp1 e k)) ∧ Below (w.heap.size + 1) w0 wr ∧ w.heap.size + 1 + 1 ≤ wr.heap.size)
    (fun i _ => d - (intOf i).toNat)
  case atStart => exact ⟨0, Nat.zero_le _, rfl, ⟨_, HM2.out, Groups.start.congr (fun j => by simp [grp1])⟩, hb2, by omega⟩
  case round =>
    obtain ⟨k, hk, rfl, ⟨D, hown, hG⟩, hb, hws⟩ := hrel
    have cE := (hb.cell (p := ⟨w.heap.size, 1, none⟩) (show w.heap.size < w.heap.size + 1 by omega)).trans ce
    by_cases hlt : k < d
    · have hki : (k : Int) < (d : Int) := by omega
      have hkb : k / e ≤ k := Nat.div_le_self _ _
      obtain ⟨j, hj⟩ : ∃ j : Nat, k / e = j := ⟨_, rfl⟩
      rw [hj] at hkb
      have hq : (k : Int) / (e : Int) = (j : Int) := by rw [← hj]; simp
      have hqw : IntKind.i64.wrap (j : Int) = (j : Int) := IntWalk.i64_in _ (by omega)
      have hwf : (Lit.int .i64 (j : Int)).wf = true := WalkArith.wf_i64 (by omega)
      obtain ⟨v, zs, hrun, hat, hoi, hzl, hback⟩ := groups_look hown lawInt Tryd.underlying141 zeroInts (by unfold maxLen; omega) (keyOf_int_mk Tryd.underlying3 hwf)
      have hzs := hG.looked hat hoi
      obtain ⟨A, n', c', rfl⟩ := own_isSlice hoi.1
      have HROW : Hid ((wr.drew.alloc (.cells #[.int .i64 k] 3)).ownsRow (w.heap.size + 1 + 1) 3 1 (.slice A n' c') zs.length (zs.map (Value.int .i64))) := (show wr.drew.ownsRow _ _ _ _ _ _ from hoi.1).alloc _
      have HCN : Hid ((wr.drew.alloc (.cells #[.int .i64 k] 3)).cell? ⟨wr.heap.size, 0, none⟩ = some (.int .i64 k)) := alloc_cell wr.drew _ _
      have cE1 : (wr.drew.alloc (.cells #[.int .i64 k] 3)).cell? ⟨w.heap.size, 1, none⟩ = some (.int .i64 e) := cell_keepT (show wr.drew.cell? _ = _ from cE) (show w.heap.size < wr.heap.size by omega) (turn_alloc _ _) (by omega)
      have HG := Lib.hid hG
      have HOI := Lib.hid hoi
      have HBK := Lib.hid hback
      have HRUN := Lib.hid hrun
      have HZS := Lib.hid hzs
      have HJ := Lib.hid hj
      have HBL := Lib.hid hb
      have he0 : (0 : Int) < (e : Int) := by omega
      have hen0 : ¬ e = 0 := by omega
      have hen : ¬ (e : Int) = 0 := by omega
      have heb : ((e : Int) == 0) = false := by simpa using hen
      clear hoi hback hzs hat hrun hown hwf hj
      go_wp2_with fail
      have hS : (fun W : World => W.cell? ⟨w.heap.size, 1, none⟩ = some (.int .i64 e) ∧ W.heap[w.heap.size + 1]? = wr.heap[w.heap.size + 1]?) wr.drew := ⟨cE, rfl⟩
      have hblk : w.heap.size + 1 < wr.heap.size := by omega
      refine wp_region_tail (fun W : World => W.cell? ⟨w.heap.size, 1, none⟩ = some (.int .i64 e) ∧ W.heap[w.heap.size + 1]? = wr.heap[w.heap.size + 1]?) 14 (by kernel_rfl) ?_
      refine wpAnyT_take (i := 0) (oi := _) (v := ?v0) rfl (by kernel_rfl) (by kernel_rfl) (by kernel_rfl) (by kernel_rfl) (fun _ _ _ h => h) (Or.inl ⟨by rfl, ?hy0⟩) hS ?rest0
      case hy0 => (intro W hW; obtain ⟨e1, e2⟩ := hW; go_simp; try with_reducible rfl)
      simp only [Act.put, List.setIfInBounds_toArray, List.set_cons_zero, List.set_cons_succ]
      refine wpAnyT_take (i := 1) (oi := _) (v := ?v1) rfl (by kernel_rfl) (by kernel_rfl) (by kernel_rfl) (by kernel_rfl) (fun _ _ _ h => h) (Or.inl ⟨by rfl, ?hy1⟩) hS ?rest1
      case hy1 => (intro W hW; obtain ⟨e1, e2⟩ := hW; go_simp; try with_reducible rfl)
      simp only [Act.put, List.setIfInBounds_toArray, List.set_cons_zero, List.set_cons_succ]
      refine wpAnyT_take (i := 2) (oi := _) (v := ?v2) rfl (by kernel_rfl) (by kernel_rfl) (by kernel_rfl) (by kernel_rfl) (fun _ _ _ h => h) (Or.inl ⟨by rfl, ?hy2⟩) hS ?rest2
      case hy2 => (intro W hW; obtain ⟨e1, e2⟩ := hW; go_simp; try with_reducible rfl)
      simp only [Act.put, List.setIfInBounds_toArray, List.set_cons_zero, List.set_cons_succ]
      refine wpAnyT_take (i := 3) (oi := _) (v := ?v3) rfl (by kernel_rfl) (by kernel_rfl) (by kernel_rfl) (by kernel_rfl) (fun _ _ _ h => h) (Or.inl ⟨by rfl, ?hy3⟩) hS ?rest3
      case hy3 => (intro W hW; obtain ⟨e1, e2⟩ := hW; go_simp; try with_reducible rfl)
      simp only [Act.put, List.setIfInBounds_toArray, List.set_cons_zero, List.set_cons_succ]
      refine wpAnyT_take (i := 4) (oi := _) (v := ?v4) rfl (by kernel_rfl) (by kernel_rfl) (by kernel_rfl) (by kernel_rfl) (fun _ _ _ h => h) (Or.inl ⟨by rfl, ?hy4⟩) hS ?rest4
      case hy4 => (intro W hW; obtain ⟨e1, e2⟩ := hW; go_simp; try with_reducible rfl)
      simp only [Act.put, List.setIfInBounds_toArray, List.set_cons_zero, List.set_cons_succ]
      refine wpAnyT_take (i := 5) (oi := _) (v := ?v5) rfl (by kernel_rfl) (by kernel_rfl) (by kernel_rfl) (by kernel_rfl) (fun _ _ _ h => h) (Or.inl ⟨by rfl, ?hy5⟩) hS ?rest5
      case hy5 => (intro W hW; obtain ⟨e1, e2⟩ := hW; go_simp; try with_reducible rfl)
      simp only [Act.put, List.setIfInBounds_toArray, List.set_cons_zero, List.set_cons_succ]
      refine wpAnyT_take (i := 6) (oi := _) (v := ?v6) rfl (by kernel_rfl) (by kernel_rfl) (by kernel_rfl) (by kernel_rfl) (fun _ _ _ h => h) (Or.inl ⟨by rfl, ?hy6⟩) hS ?rest6
      case hy6 => (intro W hW; obtain ⟨e1, e2⟩ := hW; go_simp; try with_reducible rfl)
      simp only [Act.put, List.setIfInBounds_toArray, List.set_cons_zero, List.set_cons_succ]
      refine wpAnyT_take (i := 7) (oi := _) (v := ?v7) rfl (by kernel_rfl) (by kernel_rfl) (by kernel_rfl) (by kernel_rfl) (fun _ _ _ h => h) (Or.inl ⟨by rfl, ?hy7⟩) hS ?rest7
      case hy7 => (intro W hW; obtain ⟨e1, e2⟩ := hW; go_simp; try with_reducible rfl)
      simp only [Act.put, List.setIfInBounds_toArray, List.set_cons_zero, List.set_cons_succ]
      refine wpAnyT_take (i := 8) (oi := _) (v := ?v8) rfl (by kernel_rfl) (by kernel_rfl) (by kernel_rfl) (by kernel_rfl) (fun _ _ _ h => h) (Or.inl ⟨by rfl, ?hy8⟩) hS ?rest8
      case hy8 => (intro W hW; obtain ⟨e1, e2⟩ := hW; go_simp; try with_reducible rfl)
      simp only [Act.put, List.setIfInBounds_toArray, List.set_cons_zero, List.set_cons_succ]
      refine wpAnyT_take (i := 9) (oi := _) (v := ?v9) rfl (by kernel_rfl) (by kernel_rfl) (by kernel_rfl) (by kernel_rfl) (fun _ _ _ h => h) (Or.inl ⟨by rfl, ?hy9⟩) hS ?rest9
      case hy9 => (intro W hW; obtain ⟨e1, e2⟩ := hW; go_simp; try with_reducible rfl)
      simp only [Act.put, List.setIfInBounds_toArray, List.set_cons_zero, List.set_cons_succ]
      refine wpAnyT_take (i := 10) (oi := _) (v := ?v10) rfl (by kernel_rfl) (by kernel_rfl) (by kernel_rfl) (by kernel_rfl) (fun _ _ _ h => h) (Or.inl ⟨by rfl, ?hy10⟩) hS ?rest10
      case hy10 => (intro W hW; obtain ⟨e1, e2⟩ := hW; have hrw := HRUN.out W e2; go_simp; try with_reducible rfl)
      simp only [Act.put, List.setIfInBounds_toArray, List.set_cons_zero, List.set_cons_succ]
      refine wpAnyT_take (i := 11) (oi := _) (v := ?v11) rfl (by kernel_rfl) (by kernel_rfl) (by kernel_rfl) (by kernel_rfl) (fun _ _ _ h => h) (Or.inl ⟨by rfl, ?hy11⟩) hS ?rest11
      case hy11 => (intro W hW; obtain ⟨e1, e2⟩ := hW; go_simp; try with_reducible rfl)
      simp only [Act.put, List.setIfInBounds_toArray, List.set_cons_zero, List.set_cons_succ]
      refine wpAnyT_one (i := 12) (o := _) rfl (by kernel_rfl) (fun K hK => ?_)
      go_simp
      refine hK.out _ _ (fun _ => ⟨cE1, Below.heap_alloc _ _ _ hblk⟩) ?_
      clear hK K hS
      try simp only [Act.put, List.setIfInBounds_toArray, List.set_cons_zero, List.set_cons_succ]
      refine wpAnyT_one (i := 13) (o := _) rfl (by kernel_rfl) (fun K hK => ?_)
      refine step_append1 (by rfl) _ _ _ (by rfl) (w.heap.size + 1 + 1) 3 _ _ Tryd.underlying97 infoIntG rfl _ zs.length _ (by rfl) HROW.out wr.heap.size (.int .i64 k) (by rfl) HCN.out rfl (by omega) (by omega) (by simp; omega) ?_
      intro v' w1 hown' hgrow hloc
      have hall : wr.grownBy w1 (Value.slice A n' c').ownBlock := by
        have h := (World.grownBy_alloc wr.drew (.cells #[.int .i64 k] 3) (Value.slice A n' c').ownBlock).trans hgrow
        exact ⟨h.os, h.tape, h.output, h.size, h.block⟩
      have hne : ∀ x, x < w.heap.size + 1 + 1 → (Value.slice A n' c').ownBlock ≠ some x := fun x hx e' => by have := (HOI.out.1.lt x e').1; omega
      have cE2 : w1.cell? ⟨w.heap.size, 1, none⟩ = some (.int .i64 e) := hall.cell cE (fun e' => hne w.heap.size (by omega) e'.symm)
      have hm2 : w1.heap[w.heap.size + 1]? = wr.heap[w.heap.size + 1]? := hall.block _ hblk (fun e' => hne (w.heap.size + 1) (by omega) e'.symm)
      have happ := HOI.out.appended hown' (WalkArith.wf_i64 (by omega))
      obtain ⟨w3, hru, hown3, hgrow3⟩ := HBK.out w1 v' (zs ++ [(k : Int)]) hall happ (by simp; omega) (hloc.imp id (fun h => ⟨_, h, by simp⟩))
      have hG3 := HG.out.put (j := (j : Int)) (x := (k : Int)) (by rw [← HZS.out]; exact happ)
      rw [← HZS.out] at hG3
      have hb3 : Below (w.heap.size + 1) w0 w3 := HBL.out.groups HOI.out hall hgrow3 (by omega) (by omega) (by omega)
      have hs3 : wr.heap.size ≤ w3.heap.size := Nat.le_trans hall.size hgrow3.size
      refine hK.out _ _ (fun _ => ⟨cE2, hm2⟩) ?_
      clear hK K
      try simp only [Act.put, List.setIfInBounds_toArray, List.set_cons_zero, List.set_cons_succ]
      refine wpAnyT_one (i := 14) (o := _) rfl (by kernel_rfl) (fun K hK => ?_)
      go_simp
      refine hK.out _ _ (fun h => absurd rfl h) ?_
      clear hK K hru
      refine wpAnyT_done (by kernel_rfl) ?_ _
      simp only [Exit.inBlock, Exit.then]
      go_wp2_with fail
      go_roundw
      case rel => exact ⟨k + 1, by omega, by go_num, ⟨_, hown3, hG3.congr (fun i => by rw [grp1_succ, HJ.out, HZS.out])⟩, hb3, by omega⟩
      case measure => simp [intOf]; omega
    · obtain rfl : k = d := by omega
      have hki : ¬ (k : Int) < (k : Int) := by omega
      have cG := (hb.cell (p := ⟨w.heap.size, 0, none⟩) (show w.heap.size < w.heap.size + 1 by omega)).trans cg
      go_wp2_with fail
      have HOWN := Lib.hid hown
      have HGG := Lib.hid hG
      have HBB := Lib.hid hb
      have hwr := hws
      clear hown hG hb cE
      go_loopw [29] (fun i wr => ∃ m : Nat, m ≤ g ∧ i = .int .i64 m ∧ (∃ D : DataW Unit, wr.ownsGroups Tryd.prog 3 (w.heap.size + 1 + 1) 3 .i64 (w.heap.size + 1) (k + m) D ∧ Groups D (grp2 k e m)) ∧ Below (w.heap.size + 1) w0 wr ∧ w.heap.size + 1 + 1 ≤ wr.heap.size)
        (fun i _ => g - (intOf i).toNat)
      case atStart => exact ⟨0, Nat.zero_le _, rfl, ⟨_, HOWN.out, HGG.out.congr (fun j => by rw [grp2_zero])⟩, HBB.out, hwr⟩
      case round =>
        clear HOWN HGG HBB hws hwr
        obtain ⟨m, hm, rfl, ⟨D, hown, hG⟩, hb, hws⟩ := hrel
        have c0 := (hb.cell (p := ⟨w.heap.size, 0, none⟩) (show w.heap.size < w.heap.size + 1 by omega)).trans cg
        have c1 := (hb.cell (p := ⟨w.heap.size, 1, none⟩) (show w.heap.size < w.heap.size + 1 by omega)).trans ce
        have c2 := (hb.cell (p := ⟨w.heap.size, 2, none⟩) (show w.heap.size < w.heap.size + 1 by omega)).trans cq
        by_cases hlt : m < g
        · have hmi : (m : Int) < (g : Int) := by omega
          have hwf : (Lit.int .i64 (m : Int)).wf = true := WalkArith.wf_i64 (by omega)
          obtain ⟨v, zs, hrun, hat, hoi, hzl, hback⟩ := groups_look hown lawInt Tryd.underlying141 zeroInts (by unfold maxLen; omega) (keyOf_int_mk Tryd.underlying3 hwf)
          have hzs := hG.looked hat hoi
          obtain ⟨A, n', c', rfl⟩ := own_isSlice hoi.1
          have HG := Lib.hid hG
          have HOI := Lib.hid hoi
          have HBK := Lib.hid hback
          have HRUN := Lib.hid hrun
          have HZS := Lib.hid hzs
          have HBL := Lib.hid hb
          have hsw : IntKind.i64.wrap ((k : Int) + (m : Int)) = ((k + m : Nat) : Int) := by rw [IntWalk.i64_in _ (by omega)]; omega
          clear hoi hback hzs hat hrun hown hwf hG hb
          go_wp2_with fail
          have hS : (fun W : World => W.cell? ⟨w.heap.size, 0, none⟩ = some (.int .i64 g) ∧ W.cell? ⟨w.heap.size, 1, none⟩ = some (.int .i64 e) ∧ W.cell? ⟨w.heap.size, 2, none⟩ = some (.int .i64 q) ∧ W.heap[w.heap.size + 1]? = wr.heap[w.heap.size + 1]?) wr.drew := ⟨c0, c1, c2, rfl⟩
          have hblk : w.heap.size + 1 < wr.heap.size := by omega
          refine wp_region_tail (fun W : World => W.cell? ⟨w.heap.size, 0, none⟩ = some (.int .i64 g) ∧ W.cell? ⟨w.heap.size, 1, none⟩ = some (.int .i64 e) ∧ W.cell? ⟨w.heap.size, 2, none⟩ = some (.int .i64 q) ∧ W.heap[w.heap.size + 1]? = wr.heap[w.heap.size + 1]?) 11 (by kernel_rfl) ?_
          refine wpAnyT_take (i := 0) (oi := _) (v := ?vb0) rfl (by kernel_rfl) (by kernel_rfl) (by kernel_rfl) (by kernel_rfl) (fun _ _ _ h => h) (Or.inl ⟨by rfl, ?hyb0⟩) hS ?restb0
          case hyb0 => (intro W hW; obtain ⟨e1, e2, e3, e4⟩ := hW; go_simp; try with_reducible rfl)
          simp only [Act.put, List.setIfInBounds_toArray, List.set_cons_zero, List.set_cons_succ]
          refine wpAnyT_take (i := 1) (oi := _) (v := ?vb1) rfl (by kernel_rfl) (by kernel_rfl) (by kernel_rfl) (by kernel_rfl) (fun _ _ _ h => h) (Or.inl ⟨by rfl, ?hyb1⟩) hS ?restb1
          case hyb1 => (intro W hW; obtain ⟨e1, e2, e3, e4⟩ := hW; go_simp; try with_reducible rfl)
          simp only [Act.put, List.setIfInBounds_toArray, List.set_cons_zero, List.set_cons_succ]
          refine wpAnyT_take (i := 2) (oi := _) (v := ?vb2) rfl (by kernel_rfl) (by kernel_rfl) (by kernel_rfl) (by kernel_rfl) (fun _ _ _ h => h) (Or.inl ⟨by rfl, ?hyb2⟩) hS ?restb2
          case hyb2 => (intro W hW; obtain ⟨e1, e2, e3, e4⟩ := hW; go_simp; try with_reducible rfl)
          simp only [Act.put, List.setIfInBounds_toArray, List.set_cons_zero, List.set_cons_succ]
          refine wpAnyT_take (i := 3) (oi := _) (v := ?vb3) rfl (by kernel_rfl) (by kernel_rfl) (by kernel_rfl) (by kernel_rfl) (fun _ _ _ h => h) (Or.inl ⟨by rfl, ?hyb3⟩) hS ?restb3
          case hyb3 => (intro W hW; obtain ⟨e1, e2, e3, e4⟩ := hW; go_simp; try with_reducible rfl)
          simp only [Act.put, List.setIfInBounds_toArray, List.set_cons_zero, List.set_cons_succ]
          refine wpAnyT_take (i := 4) (oi := _) (v := ?vb4) rfl (by kernel_rfl) (by kernel_rfl) (by kernel_rfl) (by kernel_rfl) (fun _ _ _ h => h) (Or.inl ⟨by rfl, ?hyb4⟩) hS ?restb4
          case hyb4 => (intro W hW; obtain ⟨e1, e2, e3, e4⟩ := hW; have hrw := HRUN.out W e4; go_simp; try with_reducible rfl)
          simp only [Act.put, List.setIfInBounds_toArray, List.set_cons_zero, List.set_cons_succ]
          refine wpAnyT_take (i := 5) (oi := _) (v := ?vb5) rfl (by kernel_rfl) (by kernel_rfl) (by kernel_rfl) (by kernel_rfl) (fun _ _ _ h => h) (Or.inl ⟨by rfl, ?hyb5⟩) hS ?restb5
          case hyb5 => (intro W hW; obtain ⟨e1, e2, e3, e4⟩ := hW; go_simp; try with_reducible rfl)
          simp only [Act.put, List.setIfInBounds_toArray, List.set_cons_zero, List.set_cons_succ]
          refine wpAnyT_take (i := 7) (oi := _) (v := ?vb7) rfl (by kernel_rfl) (by kernel_rfl) (by kernel_rfl) (by kernel_rfl) (fun _ _ _ h => h) (Or.inl ⟨by rfl, ?hyb7⟩) hS ?restb7
          case hyb7 => (intro W hW; obtain ⟨e1, e2, e3, e4⟩ := hW; go_simp; try with_reducible rfl)
          simp only [Act.put, List.setIfInBounds_toArray, List.set_cons_zero, List.set_cons_succ]
          refine wpAnyT_one (i := 6) (o := _) rfl (by kernel_rfl) (fun K hK => ?_)
          go_simp
          refine (localData_any (g : Int) (e : Int) (q : Int) _ (by rw [HGE.out]; omega)).mono ?_
          rintro e' w4 ⟨rfl, k4⟩
          rw [HGE.out]
          replace k4 := undrew k4
          have hs4 := k4.size
          have d0 := cell_keepT c0 (show w.heap.size < wr.heap.size by omega) k4 (by omega)
          have d1 := cell_keepT c1 (show w.heap.size < wr.heap.size by omega) k4 (by omega)
          have d2 := cell_keepT c2 (show w.heap.size < wr.heap.size by omega) k4 (by omega)
          have hmp : w4.heap[w.heap.size + 1]? = wr.heap[w.heap.size + 1]? := k4.block _ hblk (by omega)
          refine hK.out _ _ (fun _ => ⟨d0, d1, d2, hmp⟩) ?_
          clear hK K hS
          try simp only [Act.put, List.setIfInBounds_toArray, List.set_cons_zero, List.set_cons_succ]
          have hS : (fun W : World => W.cell? ⟨w.heap.size, 0, none⟩ = some (.int .i64 g) ∧ W.cell? ⟨w.heap.size, 1, none⟩ = some (.int .i64 e) ∧ W.cell? ⟨w.heap.size, 2, none⟩ = some (.int .i64 q) ∧ W.heap[w.heap.size + 1]? = wr.heap[w.heap.size + 1]?) w4 := ⟨d0, d1, d2, hmp⟩
          refine wpAnyT_take (i := 8) (oi := _) (v := ?vb8) rfl (by kernel_rfl) (by kernel_rfl) (by kernel_rfl) (by kernel_rfl) (fun _ _ _ h => h) (Or.inl ⟨by rfl, ?hyb8⟩) hS ?restb8
          case hyb8 => (intro W hW; obtain ⟨e1, e2, e3, e4⟩ := hW; go_simp; try with_reducible rfl)
          simp only [Act.put, List.setIfInBounds_toArray, List.set_cons_zero, List.set_cons_succ, List.getElem_toArray, List.getElem_cons_succ, List.getElem_cons_zero]
          have d0' : (w4.alloc (.cells #[.int .i64 ((k : Int) + (m : Int))] 3)).cell? ⟨w.heap.size, 0, none⟩ = some (.int .i64 g) := cell_keepT d0 (show w.heap.size < w4.heap.size by omega) (turn_alloc _ _) (by omega)
          have d1' : (w4.alloc (.cells #[.int .i64 ((k : Int) + (m : Int))] 3)).cell? ⟨w.heap.size, 1, none⟩ = some (.int .i64 e) := cell_keepT d1 (show w.heap.size < w4.heap.size by omega) (turn_alloc _ _) (by omega)
          have d2' : (w4.alloc (.cells #[.int .i64 ((k : Int) + (m : Int))] 3)).cell? ⟨w.heap.size, 2, none⟩ = some (.int .i64 q) := cell_keepT d2 (show w.heap.size < w4.heap.size by omega) (turn_alloc _ _) (by omega)
          have hoi4 : w4.ownsInts (w.heap.size + 1 + 1) 3 .i64 (.slice A n' c') zs := HOI.out.kept (turn_grown k4) (by cases (Value.slice A n' c').ownBlock <;> simp)
          have HROW := Lib.hid (hoi4.1.alloc (.cells #[.int .i64 ((k : Int) + (m : Int))] 3))
          have HCN := Lib.hid (alloc_cell w4 (.int .i64 ((k : Int) + (m : Int))) 3)
          refine wpAnyT_one (i := 9) (o := _) rfl (by kernel_rfl) (fun K hK => ?_)
          go_simp
          refine hK.out _ _ (fun _ => ⟨d0', d1', d2', (Below.heap_alloc _ _ _ (show w.heap.size + 1 < w4.heap.size by omega)).trans hmp⟩) ?_
          clear hK K hS
          try simp only [Act.put, List.setIfInBounds_toArray, List.set_cons_zero, List.set_cons_succ]
          refine wpAnyT_one (i := 10) (o := _) rfl (by kernel_rfl) (fun K hK => ?_)
          refine step_append1 (by rfl) _ _ _ (by rfl) (w.heap.size + 1 + 1) 3 _ _ Tryd.underlying97 infoIntG rfl _ zs.length _ (by rfl) HROW.out w4.heap.size (.int .i64 ((k : Int) + (m : Int))) (by rfl) HCN.out rfl (by omega) (by omega) (by simp; omega) ?_
          intro v' w5 hown' hgrow hloc
          have hall4 : w4.grownBy w5 (Value.slice A n' c').ownBlock := (World.grownBy_alloc w4 (.cells #[.int .i64 ((k : Int) + (m : Int))] 3) (Value.slice A n' c').ownBlock).trans hgrow
          have hall : wr.grownBy w5 (Value.slice A n' c').ownBlock := ((turn_grown k4).but _).trans hall4
          have hne : ∀ x, x < w.heap.size + 1 + 1 → (Value.slice A n' c').ownBlock ≠ some x := fun x hx e' => by have := (HOI.out.1.lt x e').1; omega
          have f0 : w5.cell? ⟨w.heap.size, 0, none⟩ = some (.int .i64 g) := hall.cell c0 (fun e' => hne w.heap.size (by omega) e'.symm)
          have f1 : w5.cell? ⟨w.heap.size, 1, none⟩ = some (.int .i64 e) := hall.cell c1 (fun e' => hne w.heap.size (by omega) e'.symm)
          have f2 : w5.cell? ⟨w.heap.size, 2, none⟩ = some (.int .i64 q) := hall.cell c2 (fun e' => hne w.heap.size (by omega) e'.symm)
          have hm2 : w5.heap[w.heap.size + 1]? = wr.heap[w.heap.size + 1]? := hall.block _ hblk (fun e' => hne (w.heap.size + 1) (by omega) e'.symm)
          have happ := hoi4.appended hown' (WalkArith.wf_i64 (by omega))
          obtain ⟨w6, hru, hown3, hgrow3⟩ := HBK.out w5 v' (zs ++ [(k : Int) + (m : Int)]) hall happ (by simp; omega) (hloc.imp id (fun h => ⟨_, h, by simp; omega⟩))
          have hG3 := HG.out.put (j := (m : Int)) (x := (k : Int) + (m : Int)) (by rw [← HZS.out]; exact happ)
          rw [← HZS.out] at hG3
          have hb3 : Below (w.heap.size + 1) w0 w6 := HBL.out.groups HOI.out hall hgrow3 (by omega) (by omega) (by omega)
          have hs3 : wr.heap.size ≤ w6.heap.size := Nat.le_trans hall.size hgrow3.size
          refine hK.out _ _ (fun _ => ⟨f0, f1, f2, hm2⟩) ?_
          clear hK K
          try simp only [Act.put, List.setIfInBounds_toArray, List.set_cons_zero, List.set_cons_succ]
          refine wpAnyT_one (i := 11) (o := _) rfl (by kernel_rfl) (fun K hK => ?_)
          go_simp
          refine hK.out _ _ (fun h => absurd rfl h) ?_
          clear hK K hru
          refine wpAnyT_done (by kernel_rfl) ?_ _
          simp only [Exit.inBlock, Exit.then]
          go_wp2_with fail
          go_roundw
          case rel => exact ⟨m + 1, by omega, by go_num, ⟨_, hown3, hG3.congr (fun i => by rw [grp2_succ, HZS.out]; simp)⟩, hb3, by omega⟩
          case measure => simp [intOf]; omega
        · obtain rfl : m = g := by omega
          have hmi : ¬ (m : Int) < (m : Int) := by omega
          have HOWN := Lib.hid hown
          have HGG := Lib.hid hG
          have HBB := Lib.hid hb
          clear hown hG hb
          go_wp2_with fail
          go_ret
          refine ⟨w.heap.size + 1, D, rfl, by omega, HOWN.out, HGG.out, TurnIn.of_below ?_⟩
          exact a1.to_below.trans (HBB.out.mono (by omega))

end Go.Proofs.YtlkoafnlklhaeaaDoor

/- slices.Sort of a slice of ints at this program: laid by the shelf in plain words. -/
namespace Go.Proofs
open Go.Shelf
def Tryd.lays189_ren : Go.Shelf.Ren := ⟨fun | 189 => 165 | 125 => 197 | 257 => 196 | 128 => 217 | 129 => 218 | 294 => 208 | 295 => 209 | 296 => 210 | 297 => 211 | 298 => 212 | 299 => 213 | 216 => 214 | 300 => 215 | 301 => 216 | 328 => 219 | 329 => 220 | 330 => 221 | 331 => 222 | 332 => 223 | 215 => 224 | 343 => 225 | n => n, fun | 28 => 97 | 3 => 3 | 46 => 205 | 0 => 0 | 51 => 222 | 53 => 225 | 4 => 4 | 183 => 236 | 182 => 235 | 131 => 167 | 5 => 5 | 9 => 9 | 218 => 244 | 222 => 248 | 228 => 250 | 229 => 251 | n => n, fun | n => n⟩
theorem Tryd.lays189 : Go.Proofs.Lays.n189 Tryd.prog Tryd.lays189_ren := {
  mixed := by kernel_rfl
  f125 := Tryd.func197.trans (congrArg some (by kernel_rfl))
  f128 := Tryd.func217.trans (congrArg some (by kernel_rfl))
  f129 := Tryd.func218.trans (congrArg some (by kernel_rfl))
  f189 := Tryd.func165.trans (congrArg some (by kernel_rfl))
  f215 := Tryd.func224.trans (congrArg some (by kernel_rfl))
  f216 := Tryd.func214.trans (congrArg some (by kernel_rfl))
  f257 := Tryd.func196.trans (congrArg some (by kernel_rfl))
  f294 := Tryd.func208.trans (congrArg some (by kernel_rfl))
  f295 := Tryd.func209.trans (congrArg some (by kernel_rfl))
  f296 := Tryd.func210.trans (congrArg some (by kernel_rfl))
  f297 := Tryd.func211.trans (congrArg some (by kernel_rfl))
  f298 := Tryd.func212.trans (congrArg some (by kernel_rfl))
  f299 := Tryd.func213.trans (congrArg some (by kernel_rfl))
  f300 := Tryd.func215.trans (congrArg some (by kernel_rfl))
  f301 := Tryd.func216.trans (congrArg some (by kernel_rfl))
  f328 := Tryd.func219.trans (congrArg some (by kernel_rfl))
  f329 := Tryd.func220.trans (congrArg some (by kernel_rfl))
  f330 := Tryd.func221.trans (congrArg some (by kernel_rfl))
  f331 := Tryd.func222.trans (congrArg some (by kernel_rfl))
  f332 := Tryd.func223.trans (congrArg some (by kernel_rfl))
  f343 := Tryd.func225.trans (congrArg some (by kernel_rfl))
  t0 := Tryd.underlying0
  a0 := Tryd.isAgg0
  z0 := Tryd.sizeOf0
  v0 := Tryd.zeroValue0
  t3 := Tryd.underlying3
  a3 := Tryd.isAgg3
  z3 := Tryd.sizeOf3
  v3 := Tryd.zeroValue3
  t4 := Tryd.underlying4
  a4 := Tryd.isAgg4
  z4 := Tryd.sizeOf4
  v4 := Tryd.zeroValue4
  t5 := Tryd.underlying5
  a5 := Tryd.isAgg5
  z5 := Tryd.sizeOf5
  v5 := Tryd.zeroValue5
  t9 := Tryd.underlying9
  a9 := Tryd.isAgg9
  z9 := Tryd.sizeOf9
  v9 := Tryd.zeroValue9
  t28 := Tryd.underlying97
  a28 := Tryd.isAgg97
  z28 := Tryd.sizeOf97
  v28 := Tryd.zeroValue97
  t46 := Tryd.underlying205
  a46 := Tryd.isAgg205
  z46 := Tryd.sizeOf205
  v46 := Tryd.zeroValue205
  t51 := Tryd.underlying222
  a51 := Tryd.isAgg222
  z51 := Tryd.sizeOf222
  v51 := Tryd.zeroValue222
  t53 := Tryd.underlying225
  a53 := Tryd.isAgg225
  z53 := Tryd.sizeOf225
  v53 := Tryd.zeroValue225
  t131 := Tryd.underlying167
  a131 := Tryd.isAgg167
  z131 := Tryd.sizeOf167
  v131 := Tryd.zeroValue167
  t182 := Tryd.underlying235
  a182 := Tryd.isAgg235
  z182 := Tryd.sizeOf235
  v182 := Tryd.zeroValue235
  t183 := Tryd.underlying236
  a183 := Tryd.isAgg236
  z183 := Tryd.sizeOf236
  v183 := Tryd.zeroValue236
  t218 := Tryd.underlying244
  a218 := Tryd.isAgg244
  z218 := Tryd.sizeOf244
  v218 := Tryd.zeroValue244
  t222 := Tryd.underlying248
  a222 := Tryd.isAgg248
  z222 := Tryd.sizeOf248
  v222 := Tryd.zeroValue248
  t228 := Tryd.underlying250
  a228 := Tryd.isAgg250
  z228 := Tryd.sizeOf250
  v228 := Tryd.zeroValue250
  t229 := Tryd.underlying251
  a229 := Tryd.isAgg251
  z229 := Tryd.sizeOf251
  v229 := Tryd.zeroValue251 }
open Go.Sort Go.RowKit in
theorem Tryd.slices_Sort_int (blk off cap : Nat) (zs : List Int) (w : World) (hH : Holds (Value.int .i64) w blk off zs.toArray) (hblk : blk < w.heap.size) (hsz : zs.length < 4611686018427387904) :
    Calls Tryd.prog 165 #[.slice (some ⟨blk, off, none⟩) zs.length cap] w fun e w' =>
      e = .returned (.tuple #[]) ∧ ∃ n os, w' = grow (putRow (Value.int .i64) (Sort.ahead w n) blk off (zs.mergeSort fun x y => decide (x ≤ y)).toArray) os := Any.slices_Sort_int Tryd.lays189 blk off cap zs w hH hblk hsz
end Go.Proofs

/- sortedGroups, the program's. -/
namespace G294
open Go Go.RowKit Go.Maps Go.ChangeShapes
open Go.WideElems (Fit rd rg pl)
/-- the keys met so far -/
def CollI (D : DataW Unit) (left : Lit → Bool) (ss : List Int) : Prop := ss.Nodup ∧ ∀ x : Int, x ∈ ss ↔ (Maps.has D (.int .i64 x) = true ∧ left (.int .i64 x) = false)
theorem CollI.start (D : DataW Unit) : CollI D (Maps.has D) [] := ⟨List.nodup_nil, fun x => by cases Maps.has D (.int .i64 x) <;> simp⟩
theorem CollI.step {D : DataW Unit} {left : Lit → Bool} {ss : List Int} (h : CollI D left ss) {x : Int} {y : DataW Unit} (hlk : left (.int .i64 x) = true) (hat : ∀ zd, D.atKey (.int .i64 x) zd = y) : CollI D (fun z => left z && !z.sameKey (.int .i64 x)) (ss ++ [x]) := by
  have hh : Maps.has D (.int .i64 x) = true := has_true_of_atKey hat
  have hx : x ∉ ss := fun hm => by have := ((h.2 x).1 hm).2; rw [hlk] at this; cases this
  refine ⟨List.nodup_append.2 ⟨h.1, by simp, fun a ha b hb => ?_⟩, fun z => ?_⟩
  · simp at hb; subst hb; exact fun e => hx (e ▸ ha)
  · rw [List.mem_append, List.mem_singleton, h.2 z]
    by_cases e : z = x
    · subst e
      simp [hh, WideAt.sameKey_self (int_isKey z)]
    · have e2 : Lit.sameKey (.int .i64 z) (.int .i64 x) = false := sameKey_ne (by simpa using e)
      simp [e, e2]
theorem mergeSort_range {ss : List Int} {g : Nat} (hn : ss.Nodup) (hm : ∀ x : Int, x ∈ ss ↔ 0 ≤ x ∧ x < (g : Int)) : ss.mergeSort (fun x y => decide (x ≤ y)) = (List.range g).map fun (i : Nat) => (i : Int) := by
  have hr : ((List.range g).map fun (i : Nat) => (i : Int)).Nodup := List.pairwise_map.2 (List.nodup_range.imp fun h e => h (by omega))
  have hp : ss.Perm ((List.range g).map fun (i : Nat) => (i : Int)) := (List.perm_ext_iff_of_nodup hn hr).2 fun x => by
    rw [hm x, List.mem_map]
    constructor
    · rintro ⟨h1, h2⟩; exact ⟨x.toNat, by simp; omega, by omega⟩
    · rintro ⟨i, hi, rfl⟩; simp at hi; omega
  refine List.Perm.eq_of_pairwise (le := fun a b => decide (a ≤ b) = true) (fun a b _ _ h1 h2 => ?_) (List.pairwise_mergeSort (fun a b c h1 h2 => ?_) (fun a b => ?_) ss) ?_ ((List.mergeSort_perm ss _).trans hp)
  · simp only [decide_eq_true_eq] at h1 h2; omega
  · simp only [decide_eq_true_eq] at *; omega
  · simp only [Bool.or_eq_true, decide_eq_true_eq]; omega
  · refine List.pairwise_map.2 ?_
    have := List.pairwise_lt_range (n := g)
    exact this.imp fun h => by simp; omega
theorem grp_key {d e g : Nat} (hg : d = g * e) (he : 1 ≤ e) (x : Int) : grp2 d e g x ≠ [] ↔ 0 ≤ x ∧ x < (g : Int) := by
  unfold grp2
  constructor
  · intro h
    by_cases hx : 0 ≤ x ∧ x < (g : Int)
    · exact hx
    · exfalso
      apply h
      rw [if_neg hx, List.append_nil]
      unfold grp1
      rw [List.map_eq_nil_iff, List.filter_eq_nil_iff]
      intro i hi
      rw [List.mem_range] at hi
      rw [decide_eq_true_eq]
      intro e1
      apply hx
      have hq : i / e < g := Nat.div_lt_of_lt_mul (by rw [Nat.mul_comm]; omega)
      generalize i / e = z at *
      omega
  · intro h
    rw [if_pos h]
    simp
end G294
namespace Go.Proofs.YtlkoafnlklhaeaaDoor
open Go.RowKit Go.Maps Go.Sort G294

set_option maxRecDepth 100000 in
set_option maxHeartbeats 2000000 in
theorem sortedGroups_own (B n g : Nat) (D : DataW Unit) (f : Int → List Int) (w : World) (hown : w.ownsGroups Tryd.prog 3 (B + 1) 3 .i64 B n D) (hG : Groups D f) (hf : ∀ x : Int, f x ≠ [] ↔ 0 ≤ x ∧ x < (g : Int)) (hn : n ≤ 1000) (hg : 1 ≤ g) :
    Calls Tryd.prog 107 #[.map (some B)] w (RetInts 3 w ((List.range g).map fun (i : Nat) => (i : Int))) := by
  have hB : B < w.heap.size := by obtain ⟨es, clock, hb, _⟩ := hown; exact (Array.getElem?_eq_some_iff.1 hb).1
  have hmap : w.ownsMap Tryd.prog 3 (rowElem (H := Unit) w (B + 1) 3 .i64) B n D := by
    obtain ⟨es, clock, hb, F, hs, hD, _⟩ := hown
    exact ⟨es, clock, hb, F, hs, hD⟩
  have hsz : Maps.size D ≤ n := by
    obtain ⟨es, clock, hb, F, hs, hD, _⟩ := hown
    rw [hD]; simp [Maps.size, length_sorted]; omega
  have HG := Lib.hid hG
  have HF := Lib.hid hf
  clear hown hG hf
  go_enter Tryd.func107, Tryd.ntmps107
  go_wp2_with (at_range; refine wpList_range_own _ rfl _ 141 rfl 3 97 lawInt Tryd.underlying141 _ B n D rfl hmap ?_; intro w0 hrg0 hg0 hs0)
  go_frame
  have hb0 : Below w.heap.size w w0 := ⟨hg0.os, hg0.tape, hg0.output, hg0.size, fun k hk => hg0.block k hk (by simp)⟩
  have hs0' : w.heap.size + 1 ≤ w0.heap.size := by omega
  have HSZ := Lib.hid hsz
  clear hs0 hg0 hmap
  go_loopw [3] (fun s3 wr => ∃ left cnt ss, wr.ranges Tryd.prog 3 (rowElem (H := Unit) w (B + 1) 3 .i64) B w.heap.size n D left cnt ∧ CollI D left ss ∧ wr.ownsRow (w.heap.size + 1) 3 1 s3 ss.length (ints ss) ∧ Below w.heap.size w wr ∧ ss.length + cnt ≤ Maps.size D ∧ w.heap.size + 1 ≤ wr.heap.size)
    (fun _ wr => wr.rangeLeft B w.heap.size)
  case atStart => exact ⟨_, _, [], hrg0, CollI.start D, World.ownsRow_nil _ _ _ _, hb0, by simp, hs0'⟩
  case round =>
    obtain ⟨left, cnt, ss, hrg, hC, hrow, hb, hln, hws⟩ := hrel
    have HLN := Lib.hid hln
    have HC := Lib.hid hC
    have HROW := Lib.hid hrow
    obtain ⟨A3, n3, c3, rfl⟩ := own_isSlice hrow
    clear hrg0 hb0 hC hrow hln
    go_wp2_with (at_next; refine wpList_next_ranges _ rfl _ rfl 3 lawInt _ (Value.int .i64) (fun c : Option Addr × Nat × Nat => Value.slice c.1 c.2.1 c.2.2) (fun key kl hkey => by obtain ⟨x, rfl, _⟩ := Maps.keyOf_int_inv Tryd.underlying3 hkey; exact ⟨x, rfl⟩) (fun v y hv => by obtain ⟨zs, ho, _⟩ := rowElem_inv hv; obtain ⟨A', n', c', e⟩ := own_isSlice ho.1; exact ⟨(A', n', c'), e⟩) B w.heap.size n _ _ _ rfl hrg ?x1 ?x2)
    case x1 =>
      intro hc0 hl0
      have HMEM : Hid (∀ x : Int, x ∈ ss ↔ 0 ≤ x ∧ x < (g : Int)) := fun x => by
        rw [HC.out.2 x, ← HF.out x]
        constructor
        · rintro ⟨h1, _⟩ h2
          rw [HG.out.no x h2] at h1; cases h1
        · intro h1
          exact ⟨has_true_of_atKey (HG.out.at_ x h1), hl0 _⟩
      have hpos : 0 < ss.length := List.length_pos_of_mem ((HMEM.out 0).2 ⟨by omega, by omega⟩)
      have HMS := Lib.hid (mergeSort_range HC.out.1 HMEM.out)
      have hln2 : ss.length ≤ 1000 := by have := HLN.out; have := HSZ.out; omega
      rcases HROW.out.2 with ⟨_, h0⟩ | ⟨gg, cap, cur, hv, hbase, hgb, h1, h2, h3, h4⟩
      · omega
      · simp only [Value.slice.injEq] at hv
        obtain ⟨rfl, hn3, rfl⟩ := hv
        have HB := Lib.hid hb
        have HGB := Lib.hid hgb
        have hH : Holds (Value.int .i64) wr gg 0 ss.toArray := holds_of_blockI hgb (by rw [Nat.mul_one] at h4; exact h4)
        have HH := Lib.hid hH
        have hggl : gg < wr.heap.size := (Array.getElem?_eq_some_iff.1 hgb).1
        have HL := Lib.hid (List.length_mergeSort (le := fun x y : Int => decide (x ≤ y)) ss)
        subst hn3
        clear hb hgb hH h4 hl0
        go_wp2_with fail
        refine (Tryd.slices_Sort_int gg 0 c3 ss _ HH.out hggl (by omega)).mono ?_
        rintro e' w5 ⟨rfl, nn, os, hw5⟩
        have hgr : wr.grownBy w5 (some gg) := by rw [hw5]; exact grownBy_sortedI _
        have hsr := ownsRow_sortedI (w := wr) (base := w.heap.size + 1) (n := nn) (os := os) (ts := ss.mergeSort fun x y => decide (x ≤ y)) HL.out hbase HGB.out h1 h2 h3
        rw [← hw5, HMS.out] at hsr
        have hlg : ss.length = g := by
          have e1 := HL.out
          rw [HMS.out] at e1
          simpa using e1.symm
        have HLG := Lib.hid hlg
        clear hlg
        have hb5 : Below w.heap.size w w5 := HB.out.grown hgr (by omega) (fun j e => by cases e; omega)
        have HSR := Lib.hid hsr
        clear hw5 hsr hgr
        go_wp2_with fail
        go_ret
        refine ⟨_, rfl, OwnInts.of_made (own_base ?_ (Nat.le_succ _)), TurnIn.of_below hb5⟩
        have e2 := HSR.out
        have e3 : ((List.range g).map fun (i : Nat) => (i : Int)).length = ss.length := by rw [HLG.out]; simp
        rw [e3]
        exact e2
    case x2 =>
      intro x ca cn cc kl yd yp w2 cnt2 hkey hlk hv hat hrg2 hlt hg2 hs2 hen
      obtain ⟨x', ex, rfl, hwf⟩ := Maps.keyOf_int_inv Tryd.underlying3 hkey
      cases ex
      have hs2' : wr.heap.size ≤ w2.heap.size := by omega
      have HROW2 : Hid (w2.ownsRow (w.heap.size + 1) 3 1 (.slice A3 n3 c3) ss.length (ints ss)) := own_other HROW.out hg2 (fun g' e e2 => by cases e2; have := (HROW.out.lt _ e).1; omega)
      have HC2 := Lib.hid (HC.out.step hlk hat)
      have hln2 : ss.length ≤ 1000 := by have := HLN.out; have := HSZ.out; omega
      have HRG := Lib.hid hrg
      have HRG2 := Lib.hid hrg2
      have HB2 : Hid (Below w.heap.size w w2) := hb.grown hg2 hb.size (fun j e => by cases e; exact Nat.le_refl _)
      have HBS : Hid (∀ x, x < w.heap.size + 1 → (Value.slice A3 n3 c3).ownBlock ≠ some x) := fun x hx e => by have := (HROW.out.lt x e).1; omega
      clear hs2 hkey hv hat hlk hrg hrg2 hb hg2
      go_wp2_with (at_builtin; refine wpList_append1 rfl _ _ _ rfl (w.heap.size + 1) 3 _ _ Tryd.underlying97 infoIntG rfl _ ss.length _ rfl (HROW2.out.alloc _) w2.heap.size (.int .i64 x) rfl ?c1 rfl ?c2 ?c3 ?c4 ?_)
      case c1 => simp
      case c2 => omega
      case c3 => omega
      case c4 => first | omega | (simp; omega)
      intro v' w3 hown' hgrow hloc
      have hsz3 := hgrow.size
      have hrg3 := (HRG2.out.alloc (.cells #[.int .i64 x] 3)).kept hgrow (fun e => HBS.out B (by omega) e.symm) (fun e => HBS.out w.heap.size (by omega) e.symm)
      have hb3 : Below w.heap.size w w3 := (HB2.out.alloc HB2.out.size _).grown hgrow (by have := HB2.out.size; simp; omega) (fun j e => by have := (HROW2.out.lt j e).1; omega)
      rw [World.size_alloc] at hsz3
      have hown3 : w3.ownsRow (w.heap.size + 1) 3 1 v' (ss ++ [x]).length (ints (ss ++ [x])) := by rw [ints_append]; simpa [ints] using hown'
      have HR3 := Lib.hid hrg3
      have HO3 := Lib.hid hown3
      clear hown' hgrow hloc hrg3 hown3
      go_wp2_with fail
      go_roundw
      case rel => exact ⟨_, cnt2, ss ++ [x], HR3.out, HC2.out, HO3.out, hb3, by have := HLN.out; simp; omega, by omega⟩
      case measure => rw [HR3.out.left_eq, HRG.out.left_eq]; exact hlt

end Go.Proofs.YtlkoafnlklhaeaaDoor

/- GroupOf: its mathematics, the program's and the model's. -/
namespace G294
open Go Go.RowKit
/-- the group of a shard, -1 for none -/
def grpN (d e g : Nat) (a : Int) : Int := if 0 ≤ a ∧ a ≤ (d : Int) - 1 then a / (e : Int) else if (d : Int) ≤ a ∧ a ≤ (d : Int) + g - 1 then a - d else -1
def grpOk (g e q a : Int) : Bool := locOk g e q && decide (0 ≤ grpN (g * e).toNat e.toNat g.toNat a)
def grpR (g e q a : Int) : Int := if grpOk g e q a = true then grpN (g * e).toNat e.toNat g.toNat a else 0
theorem toNat_mul2 (g e : Nat) : ((g : Int) * (e : Int)).toNat = g * e := by rw [← Int.natCast_mul, Int.toNat_natCast]
theorem grpR_no {g e q a : Int} (h : grpOk g e q a = false) : grpR g e q a = 0 := if_neg (by rw [h]; simp)
theorem grpR_yes {g e q : Nat} {a : Int} (h : grpOk g e q a = true) : grpR g e q a = grpN (g * e) e g a := by
  unfold grpR; rw [if_pos h, toNat_mul2, Int.toNat_natCast, Int.toNat_natCast]
theorem grpOk_yes {g e q : Nat} {a : Int} (h : locOk g e q = true) : grpOk g e q a = decide (0 ≤ grpN (g * e) e g a) := by
  unfold grpOk; rw [h, toNat_mul2, Int.toNat_natCast, Int.toNat_natCast, Bool.true_and]
theorem mem_grp {d e g : Nat} (he : 1 ≤ e) (hd : d = g * e) (a : Int) (i : Nat) (hi : i < g) : a ∈ grp2 d e g (i : Int) ↔ grpN d e g a = (i : Int) := by
  unfold grp2 grpN
  rw [if_pos ⟨by omega, by omega⟩, List.mem_append, List.mem_singleton]
  have h1 : a ∈ grp1 e d (i : Int) ↔ (0 ≤ a ∧ a ≤ (d : Int) - 1) ∧ a / (e : Int) = (i : Int) := by
    unfold grp1
    rw [List.mem_map]
    constructor
    · rintro ⟨t, ht, rfl⟩
      rw [List.mem_filter, List.mem_range, decide_eq_true_eq] at ht
      refine ⟨by omega, ?_⟩
      rw [← ht.2]; simp
    · rintro ⟨h1, h2⟩
      obtain ⟨t, rfl⟩ := Int.eq_ofNat_of_zero_le h1.1
      refine ⟨t, ?_, rfl⟩
      rw [List.mem_filter, List.mem_range, decide_eq_true_eq]
      refine ⟨by omega, ?_⟩
      rw [← h2]; simp
  rw [h1]
  by_cases ha : 0 ≤ a ∧ a ≤ (d : Int) - 1
  · rw [if_pos ha]
    constructor
    · rintro (h | h)
      · exact h.2
      · omega
    · intro h; exact .inl ⟨ha, h⟩
  · rw [if_neg ha]
    constructor
    · rintro (h | h)
      · exact absurd h.1 ha
      · rw [if_pos (by omega)]; omega
    · intro h
      split at h
      · right; omega
      · omega
theorem grpN_lt {d e g : Nat} (he : 1 ≤ e) (hd : d = g * e) (a : Int) : grpN d e g a < (g : Int) := by
  unfold grpN
  split
  · rename_i h
    obtain ⟨t, rfl⟩ := Int.eq_ofNat_of_zero_le h.1
    have hq : t / e < g := Nat.div_lt_of_lt_mul (by rw [Nat.mul_comm]; omega)
    have : (t : Int) / (e : Int) = ((t / e : Nat) : Int) := by simp
    rw [this]; omega
  · split <;> omega
/-- an index, or -1: not negative just where it is there -/
def RetIdx (w : World) (b : Bool) (e : Ending) (w' : World) : Prop := ∃ r : Int, e = .returned (.int .i64 r) ∧ decide (0 ≤ r) = b ∧ w = w'
def RetIntOkB (w : World) (n : Int) (ok : Bool) (e : Ending) (w' : World) : Prop := e = .returned (.tuple #[.int .i64 n, .bool ok]) ∧ TurnIn 0 0 w w'
end G294
namespace Go.Proofs.YtlkoafnlklhaeaaDoor
open Go.RowKit Go.Maps G294

set_option maxRecDepth 100000 in
set_option maxHeartbeats 1000000 in
theorem indexInts_any (v : Value) (l : List Int) (x : Int) (w : World) (hv : Seen w v (ints l)) : Calls Tryd.prog 174 #[v, .int .i64 x] w (RetIdx w (l.contains x)) := by
  obtain ⟨A, c, rfl, hlc, hcm, hx⟩ := hv
  rw [ints_length] at hlc hx
  simp only [ints_length]
  unfold maxLen at hcm
  generalize hnn : l.length = n at *
  have HN := Lib.hid hnn
  have HX := Lib.hid hx
  clear hnn hx
  generalize hbb : l.contains x = bb
  have HBB := Lib.hid hbb
  clear hbb
  go_enter Tryd.func174, Tryd.ntmps174
  go_wp2_with fail
  go_loop [8] (fun i => ∃ k : Nat, k ≤ n ∧ i = .int .i64 k ∧ Hid (∀ (j : Nat) (y : Int), j < k → l[j]? = some y → y ≠ x)) (fun i => n - (intOf i).toNat)
  case atStart => exact ⟨0, Nat.zero_le _, rfl, fun j y hj => by omega⟩
  case round =>
    obtain ⟨k, hk, rfl, HK⟩ := hrel
    by_cases hlt : k < n
    · have hki : (k : Int) < (n : Int) := by omega
      have hkl : k < l.length := by rw [HN.out]; exact hlt
      obtain ⟨b, off, rfl, hbl, hcell⟩ := HX.out (by omega)
      have hcx := hcell k _ (ints_get l k hkl)
      obtain ⟨y, hy⟩ : ∃ y, y = l[k] := ⟨_, rfl⟩
      rw [← hy] at hcx
      have HY := Lib.hid hy
      clear hcell hy
      by_cases he : x = y
      · have hb : (x == y) = true := by simpa using he
        have hc : l.contains x = true := by
          rw [List.contains_iff_mem]
          rw [he, HY.out]; exact List.getElem_mem hkl
        have HC := Lib.hid hc
        clear he hc
        go_wp2_with fail
        go_ret
        exact ⟨_, rfl, by rw [← HBB.out, HC.out]; simp, rfl⟩
      · have hb : (x == y) = false := by simpa using he
        have HE := Lib.hid he
        clear he
        go_wp2_with fail
        go_round
        case rel => exact ⟨k + 1, by omega, by go_num, fun j z hj hz => by
          by_cases e : j < k
          · exact HK.out j z e hz
          · obtain rfl : j = k := by omega
            rw [List.getElem?_eq_getElem hkl] at hz
            have := Option.some.inj hz
            rw [← this, ← HY.out]
            exact fun e => HE.out e.symm⟩
        case measure => simp [intOf]; omega
    · obtain rfl : k = n := by omega
      have hki : ¬ (k : Int) < (k : Int) := by omega
      have hc : l.contains x = false := by
        rw [← Bool.not_eq_true, List.contains_iff_mem]
        intro hm
        obtain ⟨j, hj⟩ := List.mem_iff_getElem?.1 hm
        exact HK.out j x (by have := (List.getElem?_eq_some_iff.1 hj).1; have := HN.out; omega) hj rfl
      have HC := Lib.hid hc
      clear hc
      go_wp2_with fail
      go_ret
      exact ⟨_, rfl, by rw [← HBB.out, HC.out]; simp, rfl⟩

set_option maxRecDepth 100000 in
set_option maxHeartbeats 1000000 in
theorem containsInts_any (v : Value) (l : List Int) (x : Int) (w : World) (hv : Seen w v (ints l)) : Calls Tryd.prog 128 #[v, .int .i64 x] w fun e w' => e = .returned (.bool (l.contains x)) ∧ w = w' := by
  have HV := Lib.hid hv
  clear hv
  generalize hb : l.contains x = b
  have HB := Lib.hid hb
  clear hb
  go_enter Tryd.func128, Tryd.ntmps128
  go_wp2_with fail
  refine (indexInts_any _ l x _ HV.out).mono ?_
  rintro e w' ⟨r, rfl, hr, rfl⟩
  rw [HB.out] at hr
  have HR := Lib.hid hr
  clear hr
  go_wp2_with fail
  go_ret
  exact ⟨by rw [← HR.out]; rfl, rfl⟩

set_option maxRecDepth 100000 in
set_option maxHeartbeats 1000000 in
theorem l4Group_A (g e q d : Nat) (a : Int) (w : World) (hg : 1 ≤ g ∧ g ≤ 4) (he : 1 ≤ e ∧ e ≤ 4) (hd16 : 1 ≤ d ∧ d ≤ 16) (HGE : Hid ((g : Int) * (e : Int) = (d : Int))) (h1 : 0 ≤ a ∧ a ≤ (d : Int) - 1) : Calls Tryd.prog 171 #[.agg #[.int .i64 g, .int .i64 e, .int .i64 q], .int .i64 a] w (RetInt w (grpN d e g a)) := by
  have a1 := turn_alloc w (.cells #[.int .i64 g, .int .i64 e, .int .i64 q] 73)
  have z1 := World.size_alloc w (.cells #[.int .i64 g, .int .i64 e, .int .i64 q] 73)
  have cg : (w.alloc (.cells #[.int .i64 g, .int .i64 e, .int .i64 q] 73)).cell? ⟨w.heap.size, 0, none⟩ = some (.int .i64 g) := by simp
  have ce : (w.alloc (.cells #[.int .i64 g, .int .i64 e, .int .i64 q] 73)).cell? ⟨w.heap.size, 1, none⟩ = some (.int .i64 e) := by simp
  have hen0 : ¬ e = 0 := by omega
  have HI : Hid (inB a 0 ((d : Int) - 1) = true) := by show inB a 0 ((d : Int) - 1) = true; unfold inB; simpa using h1
  have HV : Hid (grpN d e g a = a / (e : Int)) := by show grpN d e g a = _; unfold grpN; rw [if_pos h1]
  obtain ⟨h11, h12⟩ := h1
  obtain ⟨t, rfl⟩ := Int.eq_ofNat_of_zero_le h11
  have hkb : t / e ≤ t := Nat.div_le_self _ _
  obtain ⟨j, hj⟩ : ∃ j : Nat, t / e = j := ⟨_, rfl⟩
  rw [hj] at hkb
  have hq : (t : Int) / (e : Int) = (j : Int) := by rw [← hj]; simp
  have HV2 : Hid (grpN d e g (t : Int) = (j : Int)) := by show grpN d e g (t : Int) = _; rw [HV.out, hq]
  clear hj HV
  rw [HV2.out]
  go_enter Tryd.func171, Tryd.ntmps171
  go_wp2_with fail
  refine (l4Data_any (g : Int) (e : Int) (q : Int) _ (by rw [HGE.out]; omega)).mono ?_
  rintro e' w2 ⟨rfl, k2⟩
  rw [HGE.out]
  have de := cell_keepT ce (by omega) k2 (by omega)
  go_wp2_with fail
  refine (l1In_any _ _ _ _).mono ?_
  rintro e' w' ⟨rfl, rfl⟩
  rw [HI.out]
  go_wp2_with fail
  go_ret
  exact ⟨rfl, turn_trans a1 k2 (by omega)⟩

set_option maxRecDepth 100000 in
set_option maxHeartbeats 1000000 in
theorem l4Group_B (g e q d : Nat) (a : Int) (w : World) (hg : 1 ≤ g ∧ g ≤ 4) (he : 1 ≤ e ∧ e ≤ 4) (hd16 : 1 ≤ d ∧ d ≤ 16) (HGE : Hid ((g : Int) * (e : Int) = (d : Int))) (h1 : ¬ (0 ≤ a ∧ a ≤ (d : Int) - 1)) (h2 : (d : Int) ≤ a ∧ a ≤ (d : Int) + g - 1) : Calls Tryd.prog 171 #[.agg #[.int .i64 g, .int .i64 e, .int .i64 q], .int .i64 a] w (RetInt w (grpN d e g a)) := by
  have a1 := turn_alloc w (.cells #[.int .i64 g, .int .i64 e, .int .i64 q] 73)
  have z1 := World.size_alloc w (.cells #[.int .i64 g, .int .i64 e, .int .i64 q] 73)
  have cg : (w.alloc (.cells #[.int .i64 g, .int .i64 e, .int .i64 q] 73)).cell? ⟨w.heap.size, 0, none⟩ = some (.int .i64 g) := by simp
  have ce : (w.alloc (.cells #[.int .i64 g, .int .i64 e, .int .i64 q] 73)).cell? ⟨w.heap.size, 1, none⟩ = some (.int .i64 e) := by simp
  have hen0 : ¬ e = 0 := by omega
  have HI : Hid (inB a 0 ((d : Int) - 1) = false) := by show inB a 0 ((d : Int) - 1) = false; unfold inB; simpa using h1
  have HI2 : Hid (inB a (d : Int) ((d : Int) + g - 1) = true) := by show inB a (d : Int) ((d : Int) + g - 1) = true; unfold inB; simpa using h2
  have HV : Hid (grpN d e g a = a - d) := by show grpN d e g a = _; unfold grpN; rw [if_neg h1, if_pos h2]
  obtain ⟨h21, h22⟩ := h2
  clear h1
  rw [HV.out]
  go_enter Tryd.func171, Tryd.ntmps171
  go_wp2_with fail
  refine (l4Data_any (g : Int) (e : Int) (q : Int) _ (by rw [HGE.out]; omega)).mono ?_
  rintro e' w2 ⟨rfl, k2⟩
  rw [HGE.out]
  have dg := cell_keepT cg (by omega) k2 (by omega)
  go_wp2_with fail
  refine (l1In_any _ _ _ _).mono ?_
  rintro e' w' ⟨rfl, rfl⟩
  rw [HI.out]
  go_wp2_with fail
  refine (l1In_any _ _ _ _).mono ?_
  rintro e' w' ⟨rfl, rfl⟩
  rw [HI2.out]
  go_wp2_with fail
  go_ret
  exact ⟨rfl, turn_trans a1 k2 (by omega)⟩

set_option maxRecDepth 100000 in
set_option maxHeartbeats 1000000 in
theorem l4Group_C (g e q d : Nat) (a : Int) (w : World) (hg : 1 ≤ g ∧ g ≤ 4) (he : 1 ≤ e ∧ e ≤ 4) (hd16 : 1 ≤ d ∧ d ≤ 16) (HGE : Hid ((g : Int) * (e : Int) = (d : Int))) (h1 : ¬ (0 ≤ a ∧ a ≤ (d : Int) - 1)) (h2 : ¬ ((d : Int) ≤ a ∧ a ≤ (d : Int) + g - 1)) : Calls Tryd.prog 171 #[.agg #[.int .i64 g, .int .i64 e, .int .i64 q], .int .i64 a] w (RetInt w (grpN d e g a)) := by
  have a1 := turn_alloc w (.cells #[.int .i64 g, .int .i64 e, .int .i64 q] 73)
  have z1 := World.size_alloc w (.cells #[.int .i64 g, .int .i64 e, .int .i64 q] 73)
  have cg : (w.alloc (.cells #[.int .i64 g, .int .i64 e, .int .i64 q] 73)).cell? ⟨w.heap.size, 0, none⟩ = some (.int .i64 g) := by simp
  have ce : (w.alloc (.cells #[.int .i64 g, .int .i64 e, .int .i64 q] 73)).cell? ⟨w.heap.size, 1, none⟩ = some (.int .i64 e) := by simp
  have hen0 : ¬ e = 0 := by omega
  have HI : Hid (inB a 0 ((d : Int) - 1) = false) := by show inB a 0 ((d : Int) - 1) = false; unfold inB; simpa using h1
  have HI2 : Hid (inB a (d : Int) ((d : Int) + g - 1) = false) := by show inB a (d : Int) ((d : Int) + g - 1) = false; unfold inB; simpa using h2
  have HV : Hid (grpN d e g a = -1) := by show grpN d e g a = _; unfold grpN; rw [if_neg h1, if_neg h2]
  clear h1 h2
  rw [HV.out]
  go_enter Tryd.func171, Tryd.ntmps171
  go_wp2_with fail
  refine (l4Data_any (g : Int) (e : Int) (q : Int) _ (by rw [HGE.out]; omega)).mono ?_
  rintro e' w2 ⟨rfl, k2⟩
  rw [HGE.out]
  have dg := cell_keepT cg (by omega) k2 (by omega)
  go_wp2_with fail
  refine (l1In_any _ _ _ _).mono ?_
  rintro e' w' ⟨rfl, rfl⟩
  rw [HI.out]
  go_wp2_with fail
  refine (l1In_any _ _ _ _).mono ?_
  rintro e' w' ⟨rfl, rfl⟩
  rw [HI2.out]
  go_wp2_with fail
  go_ret
  exact ⟨rfl, turn_trans a1 k2 (by omega)⟩

end Go.Proofs.YtlkoafnlklhaeaaDoor

/- GroupOf: the model's and the program's. -/
namespace Go.Proofs.YtlkoafnlklhaeaaDoor
open Go.RowKit Go.Maps G294

theorem l4Group_any (g e q : Nat) (a : Int) (w : World) (hg : 1 ≤ g ∧ g ≤ 4) (he : 1 ≤ e ∧ e ≤ 4) : Calls Tryd.prog 171 #[.agg #[.int .i64 g, .int .i64 e, .int .i64 q], .int .i64 a] w (RetInt w (grpN (g * e) e g a)) := by
  have hbd := mul_bd (a := (g : Int)) (b := (e : Int)) (by omega) (by omega)
  rw [← Int.natCast_mul] at hbd
  have HGE : Hid ((g : Int) * (e : Int) = ((g * e : Nat) : Int)) := (Int.natCast_mul g e).symm
  by_cases h1 : 0 ≤ a ∧ a ≤ ((g * e : Nat) : Int) - 1
  · exact l4Group_A g e q (g * e) a w hg he (by omega) HGE h1
  · by_cases h2 : ((g * e : Nat) : Int) ≤ a ∧ a ≤ ((g * e : Nat) : Int) + g - 1
    · exact l4Group_B g e q (g * e) a w hg he (by omega) HGE h1 h2
    · exact l4Group_C g e q (g * e) a w hg he (by omega) HGE h1 h2

set_option maxRecDepth 100000 in
set_option maxHeartbeats 1000000 in
theorem groupOf_no (g e q a : Int) (w : World) (HN : Hid (locOk g e q = false)) : Calls Tryd.prog 172 #[locV g e q, .int .i64 a] w (RetIntOkB w 0 false) := by
  have a1 := turn_alloc w (.cells #[.int .i64 g, .int .i64 e, .int .i64 q] 73)
  have z1 := World.size_alloc w (.cells #[.int .i64 g, .int .i64 e, .int .i64 q] 73)
  go_enter Tryd.func172, Tryd.ntmps172
  go_wp2_with fail
  refine (goodLocal_any g e q _).mono ?_
  rintro e' w2 ⟨rfl, k2⟩
  rw [HN.out]
  go_wp2_with fail
  go_ret2
  exact ⟨rfl, turn_trans a1 k2 (by omega)⟩

end Go.Proofs.YtlkoafnlklhaeaaDoor

/- GroupOf: the program's, at a good code. -/
namespace G294
/-- what GroupOf answers for a group's number -/
def RetGrp (w : Go.World) (r : Int) (e : Go.Ending) (w' : Go.World) : Prop := (r < 0 → RetIntOkB w 0 false e w') ∧ (0 ≤ r → RetIntOkB w r true e w')
end G294
namespace Go.Proofs.YtlkoafnlklhaeaaDoor
open Go.RowKit Go.Maps G294

set_option maxRecDepth 100000 in
set_option maxHeartbeats 2000000 in
theorem groupOf_good (g e q : Nat) (a r : Int) (w : World) (hg : 1 ≤ g ∧ g ≤ 4) (he : 1 ≤ e ∧ e ≤ 4) (HL : Hid (locOk g e q = true)) (HR : Hid (grpN (g * e) e g a = r)) : Calls Tryd.prog 172 #[locV g e q, .int .i64 a] w (RetGrp w r) := by
  have a1 := turn_alloc w (.cells #[.int .i64 g, .int .i64 e, .int .i64 q] 73)
  have z1 := World.size_alloc w (.cells #[.int .i64 g, .int .i64 e, .int .i64 q] 73)
  have cg := alloc_tri0 w (.int .i64 g) (.int .i64 e) (.int .i64 q) 73
  have ce := alloc_tri1 w (.int .i64 g) (.int .i64 e) (.int .i64 q) 73
  have cq := alloc_tri2 w (.int .i64 g) (.int .i64 e) (.int .i64 q) 73
  have hbd := mul_bd (a := (g : Int)) (b := (e : Int)) (by omega) (by omega)
  rw [← Int.natCast_mul] at hbd
  have HLT : Hid (r < (g : Int)) := by show r < _; rw [← HR.out]; exact grpN_lt he.1 rfl a
  have HME : Hid (∀ i : Nat, i < g → (a ∈ grp2 (g * e) e g (i : Int) ↔ r = (i : Int))) := fun i hi => by rw [← HR.out]; exact mem_grp he.1 rfl a i hi
  have HKEY : Hid (∀ x : Int, grp2 (g * e) e g x ≠ [] ↔ 0 ≤ x ∧ x < (g : Int)) := fun x => grp_key rfl he.1 x
  have HNN : Hid (g * e + g ≤ 1000) := by show g * e + g ≤ 1000; omega
  clear hbd
  go_enter Tryd.func172, Tryd.ntmps172
  go_wp2_with fail
  refine (goodLocal_any (g : Int) (e : Int) (q : Int) _).mono ?_
  rintro e' w2 ⟨rfl, k2⟩
  rw [HL.out]
  have s2 := k2.size
  have dg := cell_keepT cg (by omega) k2 (by omega)
  have de := cell_keepT ce (by omega) k2 (by omega)
  have dq := cell_keepT cq (by omega) k2 (by omega)
  clear cg ce cq
  go_wp2_with fail
  refine (groupsOf_own g e q _ hg he).mono ?_
  rintro e' w3 ⟨B, D, rfl, hB, hown, hG, k3⟩
  have s3 := k3.size
  have HG := Lib.hid hG
  have HOWN := Lib.hid hown
  clear hG hown dg de dq
  go_wp2_with fail
  refine (sortedGroups_own B (g * e + g) g D _ _ HOWN.out HG.out HKEY.out HNN.out hg.1).mono ?_
  rintro e' w4 ⟨v, rfl, hv, k4⟩
  have s4 := k4.size
  have HO4 : Hid (w4.ownsGroups Tryd.prog 3 (B + 1) 3 .i64 B (g * e + g) D) := ownsGroups_turn HOWN.out k4
  have HT : Hid (TurnIn 0 0 w w4) := turn_trans (turn_trans (turn_trans a1 k2 (by omega)) k3 (by omega)) k4 (by omega)
  obtain ⟨A, c, rfl, hlc, hcm, hx⟩ := hv.seen
  simp only [ints_length, List.length_map, List.length_range] at hlc hx ⊢
  unfold maxLen at hcm
  obtain ⟨b, off, rfl, hbl, hcell⟩ := hx (by omega)
  have HC : Hid (∀ k : Nat, k < g → w4.cell? ⟨b, off + k, none⟩ = some (.int .i64 k)) := fun k hk => hcell k _ (by simp [ints, hk])
  clear hx hcell hv a1 k2 k3 k4
  go_wp2_with fail
  go_loop [17] (fun i => ∃ k : Nat, k ≤ g ∧ i = .int .i64 k ∧ Hid (∀ j : Nat, j < k → r ≠ (j : Int))) (fun i => g - (intOf i).toNat)
  case atStart => exact ⟨0, Nat.zero_le _, rfl, fun j hj => by omega⟩
  case round =>
    obtain ⟨k, hk, rfl, HK⟩ := hrel
    by_cases hlt : k < g
    · have hki : (k : Int) < (g : Int) := by omega
      have hcx := HC.out k hlt
      have hwf : (Lit.int .i64 (k : Int)).wf = true := WalkArith.wf_i64 (by omega)
      obtain ⟨v, zs, hrun, hat, hoi, hzl, hback⟩ := groups_look HO4.out lawInt Tryd.underlying141 zeroInts (by have := HNN.out; unfold maxLen; omega) (keyOf_int_mk Tryd.underlying3 hwf)
      have hzs := HG.out.looked hat hoi
      have hlk := hrun _ rfl
      have HSE : Hid (Seen w4 v (ints zs)) := Seen.of_own hoi.1
      have HZS := Lib.hid hzs
      clear hrun hat hoi hzl hback hzs hwf
      go_wp2_with fail
      refine (containsInts_any v zs a _ HSE.out).mono ?_
      rintro e' w' ⟨rfl, rfl⟩
      by_cases hr : r = (k : Int)
      · have HB : Hid (zs.contains a = true) := by show zs.contains a = true; rw [HZS.out, List.contains_iff_mem]; exact (HME.out k hlt).2 hr
        rw [HB.out]
        go_wp2_with fail
        go_ret2
        exact ⟨fun h => by omega, fun _ => ⟨by rw [hr]; rfl, HT.out⟩⟩
      · have HB : Hid (zs.contains a = false) := by show zs.contains a = false; rw [HZS.out, ← Bool.not_eq_true, List.contains_iff_mem]; exact fun h => hr ((HME.out k hlt).1 h)
        rw [HB.out]
        have HNR := Lib.hid hr
        clear hr
        go_wp2_with fail
        go_round
        case rel => exact ⟨k + 1, by omega, by go_num, fun j hj => by
          by_cases e1 : j < k
          · exact HK.out j e1
          · obtain rfl : j = k := by omega
            exact HNR.out⟩
        case measure => simp [intOf]; omega
    · obtain rfl : k = g := by omega
      have hki : ¬ (k : Int) < (k : Int) := by omega
      go_wp2_with fail
      go_ret2
      exact ⟨fun _ => ⟨rfl, HT.out⟩, fun h => absurd (by have := HLT.out; omega) (HK.out r.toNat (by have := HLT.out; omega))⟩

theorem groupOf_any (g e q a : Int) (w : World) : Calls Tryd.prog 172 #[locV g e q, .int .i64 a] w (RetIntOkB w (grpR g e q a) (grpOk g e q a)) := by
  by_cases h : locOk g e q = true
  · obtain ⟨⟨hg, he⟩, hq, -⟩ := locOk_b h
    obtain ⟨g, rfl⟩ := Int.eq_ofNat_of_zero_le (show 0 ≤ g by omega)
    obtain ⟨e, rfl⟩ := Int.eq_ofNat_of_zero_le (show 0 ≤ e by omega)
    obtain ⟨q, rfl⟩ := Int.eq_ofNat_of_zero_le (show 0 ≤ q by omega)
    refine (groupOf_good g e q a _ w (by omega) (by omega) h rfl).mono ?_
    rintro r w' ⟨h1, h2⟩
    by_cases hr : grpN (g * e) e g a < 0
    · have hok : grpOk g e q a = false := by rw [grpOk_yes h]; simp; omega
      rw [grpR_no hok, hok]
      exact h1 hr
    · have hok : grpOk g e q a = true := by rw [grpOk_yes h]; simp; omega
      rw [grpR_yes hok, hok]
      exact h2 (by omega)
  · have h : locOk g e q = false := by simpa using h
    have hok : grpOk g e q a = false := by unfold grpOk; rw [h]; rfl
    rw [grpR_no hok, hok]
    exact groupOf_no g e q a w h

end Go.Proofs.YtlkoafnlklhaeaaDoor
