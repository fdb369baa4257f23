/- Joined texts: SpecBlank, Allocs, SpecOwn, Two. -/
import Derived.Test.YtfglkgeeelapgaaDoorBd03
import Derived.Test.YtfglkgeeelapgaaDoorBd04
import Derived.Test.YtfglkgeeelapgaaDoorBd02
import Derived.Deep.OwnRows
import Derived.Deep.RegionLaw
set_option linter.unusedSimpArgs false
set_option linter.unusedVariables false
/- The model's l2Blank. -/
namespace Go.Proofs.YtfglkgeeelapgaaDoor
open Go.RowKit G294

set_option maxRecDepth 100000 in
set_option maxHeartbeats 2000000 in
theorem l2Blank_own (r c : Nat) (w : World) (hr : r ≤ 1000) (hc : c ≤ 1000) : Calls Tryd.prog 106 #[.int .i64 r, .int .i64 c] w (RetMat 5 22 w (mkM r c fun _ _ => 0)) := by
  have hmk := run_make_row' (P := Tryd.prog) 22 5 (.int .u8 0) 1 Tryd.underlying22 infoElemB rfl .i64 .i64 c (by omega) (by omega)
  have hb0 : Below w.heap.size w (w.alloc (.cells #[.slice none 0 0] 39)) := (Below.refl _ _).alloc (Nat.le_refl _) _
  have hb2 : Below w.heap.size w ((w.alloc (.cells #[.slice none 0 0] 39)).alloc (.cells #[.slice none 0 0] 39)) := hb0.alloc (by simp) _
  have hsz : ((w.alloc (.cells #[.slice none 0 0] 39)).alloc (.cells #[.slice none 0 0] 39)).heap.size = w.heap.size + 2 := by simp
  have hM0 : OwnM 5 22 ((w.alloc (.cells #[.slice none 0 0] 39)).alloc (.cells #[.slice none 0 0] 39)) (w.heap.size + 2) (w.heap.size + 2) (.slice none 0 0) (mkM 0 c fun _ _ => 0) [] := hsz ▸ OwnM.nil _ _ _ _
  have HSZ := Lib.hid hsz
  clear hsz
  go_enter Tryd.func106, Tryd.ntmps106
  go_wp2_with fail
  go_loopw [6] (fun i wr => ∃ (k : Nat) (o : Value) (vs : List Value), k ≤ r ∧ i = .int .i64 k ∧ OwnM 5 22 wr (w.heap.size + 2) wr.heap.size o (mkM k c fun _ _ => 0) vs ∧
      wr.cell? ⟨w.heap.size + 1, 0, none⟩ = some o ∧ wr.frozen? ⟨w.heap.size + 1, 0, none⟩ = false ∧ wr.cell? ⟨w.heap.size, 0, none⟩ = some (.slice none 0 0) ∧ wr.frozen? ⟨w.heap.size, 0, none⟩ = false ∧ Below w.heap.size w wr ∧ w.heap.size + 2 ≤ wr.heap.size)
    (fun i _ => r - (intOf i).toNat)
  case atStart => exact ⟨0, .slice none 0 0, [], Nat.zero_le _, rfl, hM0.wider (Nat.le_refl _) (by rw [HSZ.out]; exact Nat.le_refl _) (Nat.le_refl _), by simp, by simp, by simp, by simp, hb2, by rw [HSZ.out]; exact Nat.le_refl _⟩
  case round =>
    obtain ⟨k, o, vs, hk, rfl, hM, hc1, hf1, hc0, hf0, hb, hsz⟩ := hrel
    clear hM0 hb2 hb0
    by_cases hlt : k < r
    · have hki : (k : Int) < (r : Int) := by omega
      have hrow : wr.ownsRow (w.heap.size + 2) 22 1 o k vs := by simpa using hM.row
      obtain ⟨A, n, cp, rfl⟩ := hM.isSlice
      have kW : TurnIn 0 0 wr ((wr.alloc (.cells (madeCells #[.int .u8 0] c) 5)).alloc (.cells #[.slice (some ⟨wr.heap.size, 0, none⟩) c c] 22)).drew := TurnIn.of_below (((Below.refl _ _).alloc (Nat.le_refl _) _).alloc (by simp) _).drew
      have hob : ∀ g, (Value.slice A n cp).ownBlock = some g → w.heap.size + 2 ≤ g := fun g e => (hrow.lt g e).1
      have hne1 : (Value.slice A n cp).ownBlock ≠ some (w.heap.size + 1) := fun e => by have := hob _ e; omega
      have hne0 : (Value.slice A n cp).ownBlock ≠ some w.heap.size := fun e => by have := hob _ e; omega
      have HK := Lib.hid kW
      have hcA : (wr.alloc (.cells (madeCells #[.int .u8 0] c) 5)).cell? ⟨w.heap.size + 1, 0, none⟩ = some (.slice A n cp) := cell_turn (TurnIn.of_below ((Below.refl _ _).alloc (Nat.le_refl _) _)) hc1 (by omega)
      have hcB : ((wr.alloc (.cells (madeCells #[.int .u8 0] c) 5)).alloc (.cells #[.slice (some ⟨wr.heap.size, 0, none⟩) c c] 22)).cell? ⟨w.heap.size + 1, 0, none⟩ = some (.slice A n cp) := cell_turn kW hc1 (by omega)
      clear kW
      go_wp2_with fail
      go_region_law ((refine step_append1 (by rfl) _ _ _ (by rfl) (w.heap.size + 2) 22 _ _ Tryd.underlying37 infoRowB rfl _ k vs (by rfl) (((hrow.alloc _).alloc _).drew) (wr.heap.size + 1) (.slice (some ⟨wr.heap.size, 0, none⟩) c c) (by rfl) (by simp) (by rfl) (by omega) (by omega) (by simp; omega) ?_; intro v' w1 hown1 hg1 hv1; obtain ⟨A', n', cp', rfl⟩ := own_isSlice hown1; have hc1' := (cell_past HK.out hg1 hne1 (by omega) 0).trans hc1; have hf1' := (frozen_past HK.out hg1 hne1 (by omega) 0).trans hf1))
      all_goals
        have hR : OwnBytes 5 ((wr.alloc (.cells (madeCells #[.int .u8 0] c) 5)).alloc (.cells #[.slice (some ⟨wr.heap.size, 0, none⟩) c c] 22)).drew wr.heap.size (wr.heap.size + 1) (.slice (some ⟨wr.heap.size, 0, none⟩) c c) (mkRow c fun _ => 0) := by
          refine ⟨?_, by simp, fun g e => by simp [Value.ownBlock] at e; omega⟩
          rw [bys_zero c _ (fun _ _ => rfl), mkRow_length, ← toList_madeCells_one]
          exact ((World.ownsRow_lit wr (madeCells #[.int .u8 0] c) c (Nat.le_refl _) (by unfold maxLen; omega) (by simp [madeCells])).alloc _).drew
        have hM5 := (((hM.push HK.out hR (Nat.le_refl _) (by omega) (by simpa using hown1) hg1 hv1).keep (turn_setCell w1 (w.heap.size + 1) 0 (.slice A' n' cp')) (by omega)).congr (mkM_succ k c fun _ _ => 0).symm)
        have hw1 : wr.heap.size ≤ w1.heap.size := by have := hg1.size; have := HK.out.size; omega
        have hb5 : Below w.heap.size w (w1.setCell ⟨w.heap.size + 1, 0, none⟩ (.slice A' n' cp')) := Below.setCell (TurnIn.base (TurnIn.of_grown (lo := w.heap.size) (hi := w1.heap.size) hg1 (fun g e => ⟨by have := hob g e; omega, by have := (hM.out g e); omega⟩)) (HK.out.base hb (by omega) (by omega)) (by have := HK.out.size; omega) (by omega)) (Nat.le_succ _) _
        have hq0 := ((cell_past HK.out hg1 hne0 (by omega) 0).trans hc0)
        have hq0f := ((frozen_past HK.out hg1 hne0 (by omega) 0).trans hf0)
        clear hR hown1 hg1 hv1 hM hrow hob hcA hcB hb hc0 hf0
        go_wp2_with fail
        go_roundw
        case rel => exact ⟨k + 1, .slice A' n' cp', vs ++ [.slice (some ⟨wr.heap.size, 0, none⟩) c c], by omega, by go_num, by simpa using hM5, World.cell?_setCell_same _ _ _ hc1', by simp [hf1'], (cell_set_other w1 _ _ _ (by omega)).trans hq0, (frozen_set_other w1 _ _ _ (by omega)).trans hq0f, hb5, by simp; omega⟩
        case measure => simp [intOf]; omega
    · obtain rfl : k = r := by omega
      have hki : ¬ (k : Int) < (k : Int) := by omega
      obtain ⟨A, n, cp, rfl⟩ := hM.isSlice
      go_wp2_with fail
      refine bodyPost_ret (v := .agg #[.slice A n cp]) (by simp [results, Tryd.results106, go_sem, hc0]) rfl ?_
      have kk := turn_setCell wr w.heap.size 0 (.slice A n cp)
      refine ⟨_, vs, rfl, (hM.keep kk (by omega)).wider (by omega) (by simp) (by simp), TurnIn.of_below (hb.setCell (Nat.le_refl _) _)⟩
end Go.Proofs.YtfglkgeeelapgaaDoor

/- Blocks made one behind the other. -/
namespace G294
open Go Go.RowKit
theorem alloc_mid_cell (w : World) (o1 o3 : Obj) (v : Value) (T : TypeId) : (((w.alloc o1).alloc (.cells #[v] T)).alloc o3).cell? ⟨w.heap.size + 1, 0, none⟩ = some v := by
  have h : ((w.alloc o1).alloc (.cells #[v] T)).cell? ⟨w.heap.size + 1, 0, none⟩ = some v := by simp
  exact cell_turn (turn_alloc _ o3) h (by rw [World.size_alloc, World.size_alloc]; omega)
theorem alloc_mid_frozen (w : World) (o1 o3 : Obj) (v : Value) (T : TypeId) : (((w.alloc o1).alloc (.cells #[v] T)).alloc o3).frozen? ⟨w.heap.size + 1, 0, none⟩ = false := by
  have h : ((w.alloc o1).alloc (.cells #[v] T)).frozen? ⟨w.heap.size + 1, 0, none⟩ = false := by simp
  exact frozen_turn (turn_alloc _ o3) h (by rw [World.size_alloc, World.size_alloc]; omega)
theorem alloc_last_cell (w : World) (o1 o2 : Obj) (v : Value) (T : TypeId) : (((w.alloc o1).alloc o2).alloc (.cells #[v] T)).cell? ⟨w.heap.size + 2, 0, none⟩ = some v := by
  have e : w.heap.size + 2 = ((w.alloc o1).alloc o2).heap.size := by rw [World.size_alloc, World.size_alloc]
  rw [e]; exact (by simp : ∀ w : World, (w.alloc (.cells #[v] T)).cell? ⟨w.heap.size, 0, none⟩ = some v) _
theorem alloc_last_frozen (w : World) (o1 o2 : Obj) (v : Value) (T : TypeId) : (((w.alloc o1).alloc o2).alloc (.cells #[v] T)).frozen? ⟨w.heap.size + 2, 0, none⟩ = false := by
  have e : w.heap.size + 2 = ((w.alloc o1).alloc o2).heap.size := by rw [World.size_alloc, World.size_alloc]
  rw [e]; exact (by simp : ∀ w : World, (w.alloc (.cells #[v] T)).frozen? ⟨w.heap.size, 0, none⟩ = false) _
end G294

/- The model's l2Own. -/
namespace G294
open Go Go.RowKit
/-- append(s, x...) of a row of one-cell elements, onto a row of the call's own, as one step of a region that draws its order -/
theorem step_appendN {P : Program} {w : World} {ops : Array Oper} {o : Oper} {a : Act} {K : Act → World → Prop} {Q : Exit → Act → World → Prop} {E : Prop} (hgd : o.guard = none) (s x : Operand) (t : TypeId)
    (ho : o.op = .call { callee := .builtin .append, args := #[s, x], argTypes := #[t, t] })
    (base : Nat) (e : TypeId) (z : Value) (bytes : Nat) (ht : P.underlying t = some (.slice e)) (hinfo : (P.info? e).map (fun i => (i.zero, i.size, i.bytes)) = some (some z, 1, bytes)) (hzs : z.cells.size = 1)
    (v : Value) (n : Nat) (xs : List Value) (hs : a.eval s = v) (hown : w.ownsRow base e 1 v n xs)
    (A : Addr) (m c : Nat) (ys : List Value) (hx : a.eval x = .slice (some A) m c) (hl : ys.length = m) (hc : ∀ j y, ys[j]? = some y → w.cell? (A.add j) = some y) (h1 : ∀ y, y ∈ ys → y.oneCell' = true)
    (hn : n + m ≤ 1000000000) (hby : bytes ≤ 1000) (hbase : base ≤ w.heap.size)
    (h : ∀ v' w', w'.ownsRow base e 1 v' (n + m) (xs ++ ys) → w.grownBy w' v.ownBlock → (v'.ownBlock = v.ownBlock ∨ v'.ownBlock = some w.heap.size) → K (a.put o.dst v') w') :
    if Region.wanted o (yielded ops a.tmps) = true then Oper.wp P o a w K Q else E := by
  have hw : Region.wanted o (yielded ops a.tmps) = true := by simp [Region.wanted, hgd]
  rw [if_pos hw]
  obtain ⟨i, hi, hz, hsz, hbs⟩ := info_parts hinfo
  obtain ⟨v', w', hrun, r1, r2, _, r4⟩ := run_append_own_at (P := P) w base t o.type e i z 1 bytes ht hi hz hsz hbs hzs (by omega) v n xs hown A m c ys (by omega) hc h1 (by unfold maxLen; omega) (by
    have : (n + m) * bytes ≤ 1000000000 * 1000 := Nat.mul_le_mul (by omega) hby
    omega) hbase
  unfold Oper.wp execOp
  simp only [ho, resolve, invoke, builtin, Sem.run_bind, Sem.run_pure, Result.andThen_ok, List.map_toArray, List.map_cons, List.map_nil, hs, hx, hrun]
  exact h v' w' r1 r2 r4
theorem bys_oneC (l : List UInt8) : ∀ y, y ∈ bys l → y.oneCell' = true := by
  intro y hy
  simp only [bys, List.mem_map] at hy
  obtain ⟨x, _, rfl⟩ := hy
  rfl
theorem turn_trans' {w w1 w2 : World} (k : TurnIn 0 0 w w1) {row : Option Nat} (hg : w1.grownBy w2 row) (hr : ∀ g, row = some g → w.heap.size ≤ g) : TurnIn 0 0 w w2 :=
  TurnIn.of_below (k.to_below.grown hg k.size hr)
end G294
namespace Go.Proofs.YtfglkgeeelapgaaDoor
open Go.RowKit G294

set_option maxRecDepth 100000 in
set_option maxHeartbeats 2000000 in
theorem l2Own_own (r c : Nat) (F : Ents) (v : Value) (w : World) (hs : SeenM w v (mkM r c F)) (hr : r ≤ 1000) (hc : c ≤ 1000) (hc1 : 1 ≤ c) : Calls Tryd.prog 135 #[.agg #[v]] w (RetMat 5 22 w (mkM r c F)) := by
  obtain ⟨A, cp, rfl, hlc, hcm⟩ := hs.len
  rw [mkM_length] at hlc hs ⊢
  unfold maxLen at hcm
  have hb0 : Below w.heap.size w (w.alloc (.cells #[.slice A r cp] 39)) := (Below.refl _ _).alloc (Nat.le_refl _) _
  have hb1 : Below w.heap.size w ((w.alloc (.cells #[.slice A r cp] 39)).alloc (.cells #[.slice none 0 0] 39)) := hb0.alloc (by simp) _
  have hb2 : Below w.heap.size w (((w.alloc (.cells #[.slice A r cp] 39)).alloc (.cells #[.slice none 0 0] 39)).alloc (.cells #[.slice none 0 0] 39)) := hb1.alloc (by simp; omega) _
  have hsz : (((w.alloc (.cells #[.slice A r cp] 39)).alloc (.cells #[.slice none 0 0] 39)).alloc (.cells #[.slice none 0 0] 39)).heap.size = w.heap.size + 3 := by simp
  have hM0 : OwnM 5 22 (((w.alloc (.cells #[.slice A r cp] 39)).alloc (.cells #[.slice none 0 0] 39)).alloc (.cells #[.slice none 0 0] 39)) (w.heap.size + 3) (w.heap.size + 3) (.slice none 0 0) (mkM 0 c F) [] := hsz ▸ OwnM.nil _ _ _ _
  have q2 : (((w.alloc (.cells #[.slice A r cp] 39)).alloc (.cells #[.slice none 0 0] 39)).alloc (.cells #[.slice none 0 0] 39)).cell? ⟨w.heap.size + 2, 0, none⟩ = some (.slice none 0 0) := alloc_last_cell _ _ _ _ _
  have q2f : (((w.alloc (.cells #[.slice A r cp] 39)).alloc (.cells #[.slice none 0 0] 39)).alloc (.cells #[.slice none 0 0] 39)).frozen? ⟨w.heap.size + 2, 0, none⟩ = false := alloc_last_frozen _ _ _ _ _
  have q1 : (((w.alloc (.cells #[.slice A r cp] 39)).alloc (.cells #[.slice none 0 0] 39)).alloc (.cells #[.slice none 0 0] 39)).cell? ⟨w.heap.size + 1, 0, none⟩ = some (.slice none 0 0) := alloc_mid_cell _ _ _ _ _
  have q1f : (((w.alloc (.cells #[.slice A r cp] 39)).alloc (.cells #[.slice none 0 0] 39)).alloc (.cells #[.slice none 0 0] 39)).frozen? ⟨w.heap.size + 1, 0, none⟩ = false := alloc_mid_frozen _ _ _ _ _
  have HSZ := Lib.hid hsz
  have HS := Lib.hid hs
  clear hsz hs
  go_enter Tryd.func135, Tryd.ntmps135
  go_wp2_with fail
  go_loopw [10] (fun i wr => ∃ (k : Nat) (o : Value) (vs : List Value), k ≤ r ∧ i = .int .i64 k ∧ OwnM 5 22 wr (w.heap.size + 3) wr.heap.size o (mkM k c F) vs ∧
      wr.cell? ⟨w.heap.size + 2, 0, none⟩ = some o ∧ wr.frozen? ⟨w.heap.size + 2, 0, none⟩ = false ∧ wr.cell? ⟨w.heap.size + 1, 0, none⟩ = some (.slice none 0 0) ∧ wr.frozen? ⟨w.heap.size + 1, 0, none⟩ = false ∧ Below w.heap.size w wr ∧ w.heap.size + 3 ≤ wr.heap.size)
    (fun i _ => r - (intOf i).toNat)
  case atStart => exact ⟨0, .slice none 0 0, [], Nat.zero_le _, rfl, hM0.wider (Nat.le_refl _) (by rw [HSZ.out]; exact Nat.le_refl _) (Nat.le_refl _), q2, q2f, q1, q1f, hb2, by rw [HSZ.out]; exact Nat.le_refl _⟩
  case round =>
    obtain ⟨k, o, vs, hk, rfl, hM, hc2, hf2, hcr, hfr, hb, hsz⟩ := hrel
    clear hM0 hb2 hb1 hb0 q2 q2f q1 q1f
    by_cases hlt : k < r
    · have hki : (k : Int) < (r : Int) := by omega
      have hrow : wr.ownsRow (w.heap.size + 3) 22 1 o k vs := by simpa using hM.row
      obtain ⟨B, n, co, rfl⟩ := hM.isSlice
      have hsw := HS.out.below hb
      obtain ⟨bb, off, c9, A0, c0, hvv, _, hbb, hcx, hc9, hsr⟩ := hsw.rowF k hlt
      simp only [Value.slice.injEq] at hvv
      obtain ⟨rfl, z9, rfl⟩ := hvv
      obtain ⟨A1, c1, hA1, hcc1, hcc2, hx1⟩ := hsr
      simp only [bys_length, mkRow_length] at hA1 hcc1 hx1
      obtain ⟨b0, off0, hA2, hb0, hx⟩ := hx1 (by omega)
      simp only [Value.slice.injEq] at hA1
      obtain ⟨rfl, _, rfl⟩ := hA1
      subst hA2
      have HX := Lib.hid hx
      clear hx hx1 z9
      have kA : TurnIn 0 0 wr (wr.alloc (.cells #[] 5)).drew := TurnIn.of_below ((Below.refl _ _).alloc (Nat.le_refl _) _).drew
      have hob : ∀ g, (Value.slice B n co).ownBlock = some g → w.heap.size + 3 ≤ g := fun g e => (hrow.lt g e).1
      have hne2 : (Value.slice B n co).ownBlock ≠ some (w.heap.size + 2) := fun e => by have := hob _ e; omega
      have hne1 : (Value.slice B n co).ownBlock ≠ some (w.heap.size + 1) := fun e => by have := hob _ e; omega
      have hown0 : (wr.alloc (.cells #[] 5)).drew.ownsRow wr.heap.size 5 1 (.slice (some ⟨wr.heap.size, 0, none⟩) 0 0) 0 [] := (World.ownsRow_lit wr #[] 0 (Nat.le_refl _) (by unfold maxLen; omega) rfl).drew
      have hcA : (wr.alloc (.cells #[] 5)).cell? ⟨w.heap.size + 2, 0, none⟩ = some (.slice B n co) := cell_turn kA hc2 (by omega)
      have hys : ∀ j y, (bys (mkRow c (F k)))[j]? = some y → (wr.alloc (.cells #[] 5)).drew.cell? ((⟨b0, off0, none⟩ : Addr).add j) = some y := fun j y hj => by rw [Addr.add_lit]; exact cell_turn kA (HX.out j y hj) hb0
      have hyl : (bys (mkRow c (F k))).length = c := by simp
      have HYS := Lib.hid hys
      clear hys
      have HR := Lib.hid hrow
      have HM := Lib.hid hM
      clear hM hrow
      go_wp2_with fail
      go_region_law (first
        | (refine step_appendN (by rfl) _ _ _ (by rfl) wr.heap.size 5 _ _ Tryd.underlying22 infoByte rfl _ 0 [] (by rfl) hown0 ⟨b0, off0, none⟩ c c0 (bys (mkRow c (F k))) (by rfl) hyl HYS.out (bys_oneC _) (by omega) (by omega) (by simp) ?_; intro u1 w1 hown1 hg1 hv1; obtain ⟨C1, m1, d1, rfl⟩ := own_isSlice hown1; have k1 := turn_trans' kA hg1 (fun g e => by simp [Value.ownBlock] at e; omega); have hcB : w1.cell? ⟨w.heap.size + 2, 0, none⟩ = some (.slice B n co) := cell_turn k1 hc2 (by omega); have k2 : TurnIn 0 0 wr (w1.alloc (.cells #[.slice C1 m1 d1] 22)) := turn_trans k1 (turn_alloc _ _) (by omega); have hcC : (w1.alloc (.cells #[.slice C1 m1 d1] 22)).cell? ⟨w.heap.size + 2, 0, none⟩ = some (.slice B n co) := cell_turn k2 hc2 (by omega); have hs1 := k1.size)
        | (refine step_append1 (by rfl) _ _ _ (by rfl) (w.heap.size + 3) 22 _ _ Tryd.underlying37 infoRowB rfl _ k vs (by rfl) (owns_turn HR.out (fun g e => (HR.out.lt g e).2) k2 (by omega)) w1.heap.size (.slice C1 m1 d1) (by rfl) (by simp) (by rfl) (by omega) (by omega) (by simp; omega) ?_; intro v' w2 hown2 hg2 hv2; obtain ⟨A', n', cp', rfl⟩ := own_isSlice hown2; have hc2' := (cell_past k2 hg2 hne2 (by omega) 0).trans hc2; have hf2' := (frozen_past k2 hg2 hne2 (by omega) 0).trans hf2))
      all_goals
        have hR : OwnBytes 5 (w1.alloc (.cells #[.slice C1 m1 d1] 22)) wr.heap.size (w1.heap.size + 1) (.slice C1 m1 d1) (mkRow c (F k)) := by
          refine ⟨?_, by simp, fun g e => by have := (hown1.lt g e).2; omega⟩
          have e : w1.ownsRow wr.heap.size 5 1 (.slice C1 m1 d1) c (bys (mkRow c (F k))) := by simpa using hown1
          rw [mkRow_length]
          exact e.alloc _
        have hM5 := (((HM.out.push k2 hR (Nat.le_refl _) (by omega) (by simpa using hown2) hg2 hv2).keep (turn_setCell w2 (w.heap.size + 2) 0 (.slice A' n' cp')) (by omega)).congr (mkM_succ k c F).symm)
        have hw1 : wr.heap.size ≤ w2.heap.size := by have := hg2.size; have := k2.size; omega
        have hb5 : Below w.heap.size w (w2.setCell ⟨w.heap.size + 2, 0, none⟩ (.slice A' n' cp')) := Below.setCell (TurnIn.base (TurnIn.of_grown (lo := w.heap.size) (hi := w2.heap.size) hg2 (fun g e => ⟨by have := hob g e; omega, by have := (HM.out.out g e); omega⟩)) (k2.base hb (by omega) (by omega)) (by have := k2.size; omega) (by omega)) (Nat.le_add_right _ 2) _
        have hq0 := ((cell_past k2 hg2 hne1 (by omega) 0).trans hcr)
        have hq0f := ((frozen_past k2 hg2 hne1 (by omega) 0).trans hfr)
        clear hR hown1 hown2 hg1 hg2 hv1 hv2 hob hcA hcB hcC hb hcr hfr hcx k1 k2 kA hown0
        go_wp2_with fail
        go_roundw
        case rel => exact ⟨k + 1, .slice A' n' cp', vs ++ [.slice C1 m1 d1], by omega, by go_num, by simpa using hM5, World.cell?_setCell_same _ _ _ hc2', by simp [hf2'], (cell_set_other w2 _ _ _ (by omega)).trans hq0, (frozen_set_other w2 _ _ _ (by omega)).trans hq0f, hb5, by simp; omega⟩
        case measure => simp [intOf]; omega
    · obtain rfl : k = r := by omega
      have hki : ¬ (k : Int) < (k : Int) := by omega
      obtain ⟨B, n, co, rfl⟩ := hM.isSlice
      go_wp2_with fail
      refine bodyPost_ret (v := .agg #[.slice B n co]) (by simp [results, Tryd.results135, go_sem, hcr]) rfl ?_
      have kk := turn_setCell wr (w.heap.size + 1) 0 (.slice B n co)
      have hle : w.heap.size ≤ w.heap.size + 1 := Nat.le_succ _
      refine ⟨_, vs, rfl, (hM.keep kk (by omega)).wider (by omega) (by simp) (by simp), TurnIn.of_below (hb.setCell hle _)⟩
end Go.Proofs.YtfglkgeeelapgaaDoor

/- Two matrices beside each other, whose rows are replaced by new ones. -/
namespace G294
open Go Go.RowKit
structure Two (E EE : TypeId) (w : World) (lo g1 g2 n p1 p2 : Nat) (A B : Mat) (vs us : List Value) : Prop where
  o1 : w.ownsRow lo EE 1 (.slice (some ⟨g1, 0, none⟩) n p1) n vs
  o2 : w.ownsRow lo EE 1 (.slice (some ⟨g2, 0, none⟩) n p2) n us
  ne : g1 ≠ g2
  r1 : ∀ (i : Nat) (u : Value), vs[i]? = some u → OwnBytes E w lo w.heap.size u (A.getD i []) ∧ u.ownBlock ≠ some g1 ∧ u.ownBlock ≠ some g2
  r2 : ∀ (i : Nat) (u : Value), us[i]? = some u → OwnBytes E w lo w.heap.size u (B.getD i []) ∧ u.ownBlock ≠ some g1 ∧ u.ownBlock ≠ some g2
def ApartL (vs : List Value) : Prop := ∀ (i j : Nat) (u u' : Value) (g : Nat), vs[i]? = some u → vs[j]? = some u' → u.ownBlock = some g → u'.ownBlock = some g → i = j
section
variable {E EE : TypeId} {w w' : World} {lo g1 g2 n p1 p2 : Nat} {A B : Mat} {vs us : List Value}
theorem Two.flip (h : Two E EE w lo g1 g2 n p1 p2 A B vs us) : Two E EE w lo g2 g1 n p2 p1 B A us vs :=
  ⟨h.o2, h.o1, h.ne.symm, fun i u hu => ⟨(h.r2 i u hu).1, (h.r2 i u hu).2.2, (h.r2 i u hu).2.1⟩, fun i u hu => ⟨(h.r1 i u hu).1, (h.r1 i u hu).2.2, (h.r1 i u hu).2.1⟩⟩
theorem Two.keep (h : Two E EE w lo g1 g2 n p1 p2 A B vs us) (t : TurnIn 0 0 w w') : Two E EE w' lo g1 g2 n p1 p2 A B vs us :=
  ⟨owns_turn h.o1 (fun g e => (h.o1.lt g e).2) t (by omega), owns_turn h.o2 (fun g e => (h.o2.lt g e).2) t (by omega), h.ne,
    fun i u hu => ⟨((h.r1 i u hu).1.keep t (by omega)).wider (Nat.le_refl _) t.size (Nat.le_refl _), (h.r1 i u hu).2⟩,
    fun i u hu => ⟨((h.r2 i u hu).1.keep t (by omega)).wider (Nat.le_refl _) t.size (Nat.le_refl _), (h.r2 i u hu).2⟩⟩
theorem Two.put (h : Two E EE w lo g1 g2 n p1 p2 A B vs us) (k : Nat) (hk : k < A.length) {u : Value} {r : List UInt8} (hu : OwnBytes E w lo w.heap.size u r) (n1 : u.ownBlock ≠ some g1) (n2 : u.ownBlock ≠ some g2) :
    Two E EE (w.setCell ⟨g1, k, none⟩ u) lo g1 g2 n p1 p2 (A.set k r) B (vs.set k u) us := by
  have hst := h.o1.stored k u
  have hold : ∀ (x : Value) (l : List UInt8), OwnBytes E w lo w.heap.size x l → x.ownBlock ≠ some g1 → OwnBytes E (w.setCell ⟨g1, k, none⟩ u) lo (w.setCell ⟨g1, k, none⟩ u).heap.size x l :=
    fun x l hx hn => (hx.other hst.2 (fun g' e e2 => hn (e.trans e2.symm))).wider (Nat.le_refl _) (by simp) (by simp)
  refine ⟨hst.1, own_other h.o2 hst.2 (fun g e e2 => h.ne (Option.some.inj (e2.trans e.symm))), h.ne, ?_, fun i x hx => ⟨hold x _ (h.r2 i x hx).1 (h.r2 i x hx).2.1, (h.r2 i x hx).2⟩⟩
  intro i x hx
  rw [getD_set _ _ _ _ _ hk]
  rcases get_set hx with ⟨rfl, rfl⟩ | ⟨hne, hx⟩
  · rw [if_pos rfl]; exact ⟨hold _ _ hu n1, n1, n2⟩
  · rw [if_neg hne]; exact ⟨hold x _ (h.r1 i x hx).1 (h.r1 i x hx).2.1, (h.r1 i x hx).2⟩
theorem Two.congr {A' B' : Mat} (h : Two E EE w lo g1 g2 n p1 p2 A B vs us) (e1 : A = A') (e2 : B = B') : Two E EE w lo g1 g2 n p1 p2 A' B' vs us := e1 ▸ e2 ▸ h
theorem Two.of {lo1 hi1 lo2 hi2 : Nat} (h1 : OwnM E EE w lo1 hi1 (.slice (some ⟨g1, 0, none⟩) n p1) A vs) (h2 : OwnM E EE w lo2 hi2 (.slice (some ⟨g2, 0, none⟩) n p2) B us) (hd : hi1 ≤ lo2) (hl : lo ≤ lo1) (hA : A.length = n) (hB : B.length = n) (hl2 : lo ≤ lo2) :
    Two E EE w lo g1 g2 n p1 p2 A B vs us ∧ ApartL us := by
  have a1 := h1.out g1 rfl
  have a2 := (h2.row.lt g2 rfl).1
  refine ⟨⟨own_base (hA ▸ h1.row) hl, own_base (hB ▸ h2.row) hl2, by omega, fun i u hu => ?_, fun i u hu => ?_⟩, fun i j u u' g hi hj e e' => ((h2.apart i u g hi e).2 j u' hj e').symm⟩
  · exact ⟨(h1.rows i u hu).wider hl h1.top (Nat.le_refl _), fun e => (h1.apart i u g1 hu e).1 rfl, fun e => by have := (h1.rows i u hu).2.2 g2 e; omega⟩
  · exact ⟨(h2.rows i u hu).wider hl2 h2.top (Nat.le_refl _), fun e => by have := ((h2.rows i u hu).1.lt g1 e).1; omega, fun e => (h2.apart i u g2 hu e).1 rfl⟩
theorem Two.own2 (h : Two E EE w lo g1 g2 n p1 p2 A B vs us) (ha : ApartL us) (hB : B.length = n) : OwnM E EE w lo w.heap.size (.slice (some ⟨g2, 0, none⟩) n p2) B us :=
  ⟨hB.symm ▸ h.o2, Nat.le_refl _, fun g e => (h.o2.lt g e).2, fun i u hu => (h.r2 i u hu).1, fun i u g hu e => ⟨fun e2 => (h.r2 i u hu).2.2 (e.trans e2.symm), fun j u' hj e' => (ha i j u u' g hu hj e e').symm⟩⟩
/-- row i of the first -/
theorem Two.rowF {c : Nat} {F : Ents} (h : Two E EE w lo g1 g2 n p1 p2 (mkM n c F) B vs us) (i : Nat) (hi : i < n) (hc : 0 < c) : ∃ b cc, vs[i]? = some (.slice (some ⟨b, 0, none⟩) c cc) ∧ b < w.heap.size ∧ c ≤ cc ∧ cc ≤ maxLen ∧
    w.cell? ⟨g1, i, none⟩ = some (.slice (some ⟨b, 0, none⟩) c cc) ∧ OwnBytes E w lo w.heap.size (.slice (some ⟨b, 0, none⟩) c cc) (mkRow c (F i)) ∧ ∀ j, j < c → w.cell? ⟨b, j, none⟩ = some (.int .u8 ((F i j).toNat : Int)) := by
  have hl := h.o1.1
  have e : vs[i]? = some (vs[i]'(by omega)) := List.getElem?_eq_getElem (by omega)
  generalize vs[i]'(by omega) = u at e
  have ho := (h.r1 i u e).1
  rw [mkM_getD _ _ _ _ hi] at ho
  obtain ⟨b, cc, rfl, h1, h2, h3, h4⟩ := ho.slice (by simpa using hc)
  rw [mkRow_length] at ho e h3
  have hcell := h.o1.cells (g := g1) rfl i _ e
  rw [Addr.add_lit, Nat.zero_add] at hcell
  refine ⟨b, cc, e, h2, h3, h4, hcell, ho, fun j hj => ?_⟩
  have := ho.cellAt (k := j) (by simpa using hj)
  rwa [mkRow_getD _ _ _ hj] at this
theorem Two.at1 (h : Two E EE w lo g1 g2 n p1 p2 A B vs us) {i : Nat} {u : Value} (hu : vs[i]? = some u) : w.cell? ⟨g1, i, none⟩ = some u := by
  have hcell := h.o1.cells (g := g1) rfl i _ hu
  rwa [Addr.add_lit, Nat.zero_add] at hcell
theorem Two.some1 (h : Two E EE w lo g1 g2 n p1 p2 A B vs us) {i : Nat} (hi : i < n) : ∃ u, w.cell? ⟨g1, i, none⟩ = some u := by
  have hl := h.o1.1
  exact ⟨_, h.at1 (List.getElem?_eq_getElem (by omega))⟩
/-- what is beside stays when a row is put -/
theorem Two.side (h : Two E EE w lo g1 g2 n p1 p2 A B vs us) (k : Nat) (u : Value) {x : Value} {l : List UInt8} (hx : OwnBytes E w lo w.heap.size x l) (hn : x.ownBlock ≠ some g1) : OwnBytes E (w.setCell ⟨g1, k, none⟩ u) lo (w.setCell ⟨g1, k, none⟩ u).heap.size x l :=
  (hx.other (h.o1.stored k u).2 (fun g' e e2 => hn (e.trans e2.symm))).wider (Nat.le_refl _) (by simp) (by simp)
/-- a new row is put -/
theorem Two.new (h : Two E EE w lo g1 g2 n p1 p2 A B vs us) (t : TurnIn 0 0 w w') {g c cc : Nat} {r : List UInt8} (ho : OwnBytes E w' w.heap.size w'.heap.size (.slice (some ⟨g, 0, none⟩) c cc) r) (hg : w.heap.size ≤ g) (hlo : lo ≤ w.heap.size) (k : Nat) (hk : k < A.length) :
    Two E EE (w'.setCell ⟨g1, k, none⟩ (.slice (some ⟨g, 0, none⟩) c cc)) lo g1 g2 n p1 p2 (A.set k r) B (vs.set k (.slice (some ⟨g, 0, none⟩) c cc)) us := by
  have a1 := (h.o1.lt g1 rfl).2
  have a2 := (h.o2.lt g2 rfl).2
  exact (h.keep t).put k hk (ho.wider hlo (Nat.le_refl _) (Nat.le_refl _)) (by simp [Value.ownBlock]; omega) (by simp [Value.ownBlock]; omega)
theorem Two.fresh (h : Two E EE w lo g1 g2 n p1 p2 A B vs us) {g c cc : Nat} (hg : w.heap.size ≤ g) : ∀ (i : Nat) (x : Value) (g' : Nat), us[i]? = some x → x.ownBlock = some g' → (Value.slice (some ⟨g, 0, none⟩) c cc).ownBlock ≠ some g' := by
  intro i x g' hx e e2
  have := (h.r2 i x hx).1.2.2 g' e
  simp [Value.ownBlock] at e2
  omega
theorem row_own {w w' : World} {c : Nat} {v : Value} {f : Nat → UInt8} (ho : OwnBytes E w' w.heap.size w'.heap.size v (mkRow c f)) (hc : 0 < c) : ∃ g cc, v = .slice (some ⟨g, 0, none⟩) c cc ∧ w.heap.size ≤ g ∧ g < w'.heap.size := by
  obtain ⟨g, cc, e, h1, h2, _⟩ := ho.slice (by simpa using hc)
  exact ⟨g, cc, by simpa using e, h1, h2⟩
theorem Two.frz (h : Two E EE w lo g1 g2 n p1 p2 A B vs us) (k : Nat) : w.frozen? ⟨g1, k, none⟩ = false := h.o1.frozenAt k
theorem ApartL.set (h : ApartL vs) (k : Nat) (u : Value) (hf : ∀ (i : Nat) (x : Value) (g : Nat), vs[i]? = some x → x.ownBlock = some g → u.ownBlock ≠ some g) : ApartL (vs.set k u) := by
  intro i j x x' g hi hj e e'
  rcases get_set hi with ⟨i1, i2⟩ | ⟨n1, hi2⟩ <;> rcases get_set hj with ⟨j1, j2⟩ | ⟨n2, hj2⟩
  · rw [i1, j1]
  · exact absurd (i2 ▸ e) (hf j x' g hj2 e')
  · exact absurd (j2 ▸ e') (hf i x g hi2 e)
  · exact h i j x x' g hi2 hj2 e e'
theorem ApartL.move (h : ApartL vs) (a k : Nat) {y : Value} (hy : vs[a]? = some y) (u : Value) (hf : ∀ (i : Nat) (x : Value) (g : Nat), vs[i]? = some x → x.ownBlock = some g → u.ownBlock ≠ some g) : ApartL ((vs.set k y).set a u) := by
  intro i j x x' g hi hj e e'
  rcases get_set hi with ⟨i1, i2⟩ | ⟨n1, hi2⟩ <;> rcases get_set hj with ⟨j1, j2⟩ | ⟨n2, hj2⟩
  · rw [i1, j1]
  · rcases get_set hj2 with ⟨j3, j4⟩ | ⟨n3, hj3⟩
    · exact absurd (i2 ▸ e) (hf a y g hy (j4 ▸ e'))
    · exact absurd (i2 ▸ e) (hf j x' g hj3 e')
  · rcases get_set hi2 with ⟨i3, i4⟩ | ⟨n3, hi3⟩
    · exact absurd (j2 ▸ e') (hf a y g hy (i4 ▸ e))
    · exact absurd (j2 ▸ e') (hf i x g hi3 e)
  · rcases get_set hi2 with ⟨i3, i4⟩ | ⟨n3, hi3⟩ <;> rcases get_set hj2 with ⟨j3, j4⟩ | ⟨n4, hj3⟩
    · rw [i3, j3]
    · exact absurd (h a j y x' g hy hj3 (i4 ▸ e) e').symm n2
    · exact absurd (h i a x y g hi3 hy e (j4 ▸ e')) n1
    · exact h i j x x' g hi3 hj3 e e'
end
/-- only the blocks g1 and g2 of those that were there may have turned -/
structure Off (g1 g2 : Nat) (w w' : World) : Prop where
  os : w'.os = w.os
  tape : w'.tape = w.tape
  output : w'.output = w.output
  size : w.heap.size ≤ w'.heap.size
  block : ∀ k, k < w.heap.size → k ≠ g1 → k ≠ g2 → w'.heap[k]? = w.heap[k]?
section
variable {w w1 w2 W : World} {g1 g2 N : Nat}
theorem Off.refl (w : World) : Off g1 g2 w w := ⟨rfl, rfl, rfl, Nat.le_refl _, fun _ _ _ _ => rfl⟩
theorem Off.turn (h : Off g1 g2 w w1) (t : TurnIn 0 0 w1 w2) : Off g1 g2 w w2 :=
  ⟨t.os.trans h.os, t.tape.trans h.tape, t.output.trans h.output, Nat.le_trans h.size t.size, fun k hk a b => (t.block k (by have := h.size; omega) (by omega)).trans (h.block k hk a b)⟩
theorem Off.set1 (h : Off g1 g2 w w1) (o : Nat) (x : Value) : Off g1 g2 w (w1.setCell ⟨g1, o, none⟩ x) :=
  ⟨h.os, h.tape, h.output, by simpa using h.size, fun k hk a b => (heap_setCell_other w1 ⟨g1, o, none⟩ k x (by intro e; simp at e; omega)).trans (h.block k hk a b)⟩
theorem Off.flip (h : Off g1 g2 w w1) : Off g2 g1 w w1 := ⟨h.os, h.tape, h.output, h.size, fun k hk a b => h.block k hk b a⟩
theorem Off.set2 (h : Off g1 g2 w w1) (o : Nat) (x : Value) : Off g1 g2 w (w1.setCell ⟨g2, o, none⟩ x) := (h.flip.set1 o x).flip
theorem Off.cell (h : Off g1 g2 w w1) {B o : Nat} {x : Value} (hc : w.cell? ⟨B, o, none⟩ = some x) (hB : B < w.heap.size) (n1 : B ≠ g1) (n2 : B ≠ g2) : w1.cell? ⟨B, o, none⟩ = some x := (World.cell?_of_block (h.block B hB n1 n2)).trans hc
theorem Off.frozen (h : Off g1 g2 w w1) {B o : Nat} {x : Bool} (hc : w.frozen? ⟨B, o, none⟩ = x) (hB : B < w.heap.size) (n1 : B ≠ g1) (n2 : B ≠ g2) : w1.frozen? ⟨B, o, none⟩ = x := (World.frozen?_of_block (h.block B hB n1 n2)).trans hc
theorem Off.below (h : Off g1 g2 w w1) (hb : Below N W w) (hN : N ≤ w.heap.size) (h1 : N ≤ g1) (h2 : N ≤ g2) : Below N W w1 :=
  ⟨h.os.trans hb.os, h.tape.trans hb.tape, h.output.trans hb.output, Nat.le_trans hb.size h.size, fun k hk => (h.block k (by omega) (by omega) (by omega)).trans (hb.block k hk)⟩
end
theorem scaleL_mk (s : UInt8) (c : Nat) (f : Nat → UInt8) : scaleL s (mkRow c f) = mkRow c (fun j => gmul s (f j)) := by
  simp [scaleL, mkRow]
theorem addL_mk (c : Nat) (f g : Nat → UInt8) : addL (mkRow c f) (mkRow c g) = mkRow c (fun j => f j ^^^ g j) := by
  apply List.ext_getElem (by simp [addL])
  intro n h1 h2
  simp [addL, mkRow]
/-- rows below k cleared -/
def ckF (a k : Nat) (fs : Nat → UInt8) (X : Ents) : Ents := fun i j => if i < k then clF a fs X i j else X i j
theorem ckF_a (a k : Nat) (fs : Nat → UInt8) (X : Ents) (j : Nat) : ckF a k fs X a j = X a j := by unfold ckF clF; split <;> simp
theorem ckF_k (a k : Nat) (fs : Nat → UInt8) (X : Ents) (j : Nat) : ckF a k fs X k j = X k j := by simp [ckF]
theorem ckF_zero (a : Nat) (fs : Nat → UInt8) (X : Ents) (n c : Nat) : mkM n c (ckF a 0 fs X) = mkM n c X := mkM_congr fun i j _ _ => by simp [ckF]
theorem ckF_all (a : Nat) (fs : Nat → UInt8) (X : Ents) (n c : Nat) : mkM n c (ckF a n fs X) = mkM n c (clF a fs X) := mkM_congr fun i j hi _ => by simp [ckF, hi]
theorem ckF_stay (a k : Nat) (fs : Nat → UInt8) (X : Ents) (n c : Nat) (h : k = a ∨ fs k = 0) : mkM n c (ckF a k fs X) = mkM n c (ckF a (k + 1) fs X) := mkM_congr fun i j _ _ => by
  unfold ckF
  by_cases h1 : i = k
  · subst h1
    simp only [Nat.lt_irrefl, if_false, Nat.lt_succ_self, if_true, clF]
    by_cases h2 : i = a
    · subst h2; simp
    · rcases h with h | h
      · exact absurd h h2
      · rw [if_neg h2, h, zero_gmul]; simp
  · by_cases h2 : i < k
    · simp [h2, show i < k + 1 by omega]
    · simp [h2, show ¬ i < k + 1 by omega]
theorem ckF_put (a k : Nat) (fs : Nat → UInt8) (X : Ents) (n c : Nat) (h : k ≠ a) : (mkM n c (ckF a k fs X)).set k (mkRow c fun j => X k j ^^^ gmul (fs k) (X a j)) = mkM n c (ckF a (k + 1) fs X) := by
  rw [mkM_set]
  refine mkM_congr fun i j _ _ => ?_
  unfold ckF
  by_cases h1 : i = k
  · subst h1
    simp [clF, h]
  · by_cases h2 : i < k
    · simp [h1, h2, show i < k + 1 by omega]
    · simp [h1, h2, show ¬ i < k + 1 by omega]
theorem ckF_put' (a k : Nat) (fs : Nat → UInt8) (X : Ents) (n c : Nat) (f : UInt8) (hf : f = fs k) (h : k ≠ a) : (mkM n c (ckF a k fs X)).set k (mkRow c fun j => ckF a k fs X k j ^^^ gmul f (ckF a k fs X a j)) = mkM n c (ckF a (k + 1) fs X) := by
  rw [← ckF_put a k fs X n c h]
  congr 1
  exact mkRow_congr fun j _ => by rw [ckF_k, ckF_a, hf]
theorem swap_put (n c a p : Nat) (s : UInt8) (F : Ents) : ((mkM n c F).set p (mkRow c (F a))).set a (mkRow c fun j => gmul s (F p j)) = mkM n c (scF a s (swF a p F)) := by
  rw [mkM_set, mkM_set]
  refine mkM_congr fun i j _ _ => ?_
  unfold scF swF sw
  by_cases h1 : i = a
  · subst h1; simp
  · by_cases h2 : i = p
    · subst h2; simp [h1]
    · simp [h1, h2]
end G294
