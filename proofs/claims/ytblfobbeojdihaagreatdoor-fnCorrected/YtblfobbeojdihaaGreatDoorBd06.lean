/- Joined texts: SpecOwn, Shape, Boxes, CodeM, ConcB, ErrW7, ErrW8. -/
import Derived.Test.YtblfobbeojdihaaGreatDoorBd05
import Derived.Test.YtblfobbeojdihaaGreatDoorBd02
import Derived.Test.YtblfobbeojdihaaGreatDoorBd04
import Derived.Deep.DeepMust
import Derived.Deep.RegionHeldLaw
import Derived.Test.YtblfobbeojdihaaGreatDoorBd03
import Derived.Lib.AppendZeros
import Derived.Lib.Hide
import Derived.StillTailTactics
set_option linter.unusedSimpArgs false
set_option linter.unusedVariables false
/- The model's l2Own. -/
namespace G294
open Go Go.RowKit
/-- append(s, x...) of a row of one-cell elements, onto a row of the call's own, as one step of a region that draws its order -/
theorem step_appendN {P : Program} {w : World} {ops : Array Oper} {o : Oper} {a : Act} {K : Act → World → Prop} {Q : Exit → Act → World → Prop} {E : Prop} (hgd : o.guard = none) (s x : Operand) (t : TypeId)
    (ho : o.op = .call { callee := .builtin .append, args := #[s, x], argTypes := #[t, t] })
    (base : Nat) (e : TypeId) (z : Value) (bytes : Nat) (ht : P.underlying t = some (.slice e)) (hinfo : (P.info? e).map (fun i => (i.zero, i.size, i.bytes)) = some (some z, 1, bytes)) (hzs : z.cells.size = 1)
    (v : Value) (n : Nat) (xs : List Value) (hs : a.eval s = v) (hown : w.ownsRow base e 1 v n xs)
    (A : Addr) (m c : Nat) (ys : List Value) (hx : a.eval x = .slice (some A) m c) (hl : ys.length = m) (hc : ∀ j y, ys[j]? = some y → w.cell? (A.add j) = some y) (h1 : ∀ y, y ∈ ys → y.oneCell' = true)
    (hn : n + m ≤ 1000000000) (hby : bytes ≤ 1000) (hbase : base ≤ w.heap.size)
    (h : ∀ v' w', w'.ownsRow base e 1 v' (n + m) (xs ++ ys) → w.grownBy w' v.ownBlock → (v'.ownBlock = v.ownBlock ∨ v'.ownBlock = some w.heap.size) → K (a.put o.dst v') w') :
    if Region.wanted o (yielded ops a.tmps) = true then Oper.wp P o a w K Q else E := by
  have hw : Region.wanted o (yielded ops a.tmps) = true := by simp [Region.wanted, hgd]
  rw [if_pos hw]
  obtain ⟨i, hi, hz, hsz, hbs⟩ := info_parts hinfo
  obtain ⟨v', w', hrun, r1, r2, _, r4⟩ := run_append_own_at (P := P) w base t o.type e i z 1 bytes ht hi hz hsz hbs hzs (by omega) v n xs hown A m c ys (by omega) hc h1 (by unfold maxLen; omega) (by
    have : (n + m) * bytes ≤ 1000000000 * 1000 := Nat.mul_le_mul (by omega) hby
    omega) hbase
  unfold Oper.wp execOp
  simp only [ho, resolve, invoke, builtin, Sem.run_bind, Sem.run_pure, Result.andThen_ok, List.map_toArray, List.map_cons, List.map_nil, hs, hx, hrun]
  exact h v' w' r1 r2 r4
theorem bys_oneC (l : List UInt8) : ∀ y, y ∈ bys l → y.oneCell' = true := by
  intro y hy
  simp only [bys, List.mem_map] at hy
  obtain ⟨x, _, rfl⟩ := hy
  rfl
theorem turn_trans' {w w1 w2 : World} (k : TurnIn 0 0 w w1) {row : Option Nat} (hg : w1.grownBy w2 row) (hr : ∀ g, row = some g → w.heap.size ≤ g) : TurnIn 0 0 w w2 :=
  TurnIn.of_below (k.to_below.grown hg k.size hr)
end G294
namespace Go.Proofs.YtblfobbeojdihaaGreatDoor
open Go.RowKit G294

set_option maxRecDepth 100000 in
set_option maxHeartbeats 2000000 in
theorem l2Own_own (r c : Nat) (F : Ents) (v : Value) (w : World) (hs : SeenM w v (mkM r c F)) (hr : r ≤ 1000) (hc : c ≤ 1000) (hc1 : 1 ≤ c) : Calls Tryz.prog 94 #[.agg #[v]] w (RetMat 5 22 w (mkM r c F)) := by
  obtain ⟨A, cp, rfl, hlc, hcm⟩ := hs.len
  rw [mkM_length] at hlc hs ⊢
  unfold maxLen at hcm
  have hb0 : Below w.heap.size w (w.alloc (.cells #[.slice A r cp] 70)) := (Below.refl _ _).alloc (Nat.le_refl _) _
  have hb1 : Below w.heap.size w ((w.alloc (.cells #[.slice A r cp] 70)).alloc (.cells #[.slice none 0 0] 70)) := hb0.alloc (by simp) _
  have hb2 : Below w.heap.size w (((w.alloc (.cells #[.slice A r cp] 70)).alloc (.cells #[.slice none 0 0] 70)).alloc (.cells #[.slice none 0 0] 70)) := hb1.alloc (by simp; omega) _
  have hsz : (((w.alloc (.cells #[.slice A r cp] 70)).alloc (.cells #[.slice none 0 0] 70)).alloc (.cells #[.slice none 0 0] 70)).heap.size = w.heap.size + 3 := by simp
  have hM0 : OwnM 5 22 (((w.alloc (.cells #[.slice A r cp] 70)).alloc (.cells #[.slice none 0 0] 70)).alloc (.cells #[.slice none 0 0] 70)) (w.heap.size + 3) (w.heap.size + 3) (.slice none 0 0) (mkM 0 c F) [] := hsz ▸ OwnM.nil _ _ _ _
  have q2 : (((w.alloc (.cells #[.slice A r cp] 70)).alloc (.cells #[.slice none 0 0] 70)).alloc (.cells #[.slice none 0 0] 70)).cell? ⟨w.heap.size + 2, 0, none⟩ = some (.slice none 0 0) := alloc_last_cell _ _ _ _ _
  have q2f : (((w.alloc (.cells #[.slice A r cp] 70)).alloc (.cells #[.slice none 0 0] 70)).alloc (.cells #[.slice none 0 0] 70)).frozen? ⟨w.heap.size + 2, 0, none⟩ = false := alloc_last_frozen _ _ _ _ _
  have q1 : (((w.alloc (.cells #[.slice A r cp] 70)).alloc (.cells #[.slice none 0 0] 70)).alloc (.cells #[.slice none 0 0] 70)).cell? ⟨w.heap.size + 1, 0, none⟩ = some (.slice none 0 0) := alloc_mid_cell _ _ _ _ _
  have q1f : (((w.alloc (.cells #[.slice A r cp] 70)).alloc (.cells #[.slice none 0 0] 70)).alloc (.cells #[.slice none 0 0] 70)).frozen? ⟨w.heap.size + 1, 0, none⟩ = false := alloc_mid_frozen _ _ _ _ _
  have HSZ := Lib.hid hsz
  have HS := Lib.hid hs
  clear hsz hs
  go_enter Tryz.func94, Tryz.ntmps94
  go_wp2_with fail
  go_loopw [10] (fun i wr => ∃ (k : Nat) (o : Value) (vs : List Value), k ≤ r ∧ i = .int .i64 k ∧ OwnM 5 22 wr (w.heap.size + 3) wr.heap.size o (mkM k c F) vs ∧
      wr.cell? ⟨w.heap.size + 2, 0, none⟩ = some o ∧ wr.frozen? ⟨w.heap.size + 2, 0, none⟩ = false ∧ wr.cell? ⟨w.heap.size + 1, 0, none⟩ = some (.slice none 0 0) ∧ wr.frozen? ⟨w.heap.size + 1, 0, none⟩ = false ∧ Below w.heap.size w wr ∧ w.heap.size + 3 ≤ wr.heap.size)
    (fun i _ => r - (intOf i).toNat)
  case atStart => exact ⟨0, .slice none 0 0, [], Nat.zero_le _, rfl, hM0.wider (Nat.le_refl _) (by rw [HSZ.out]; exact Nat.le_refl _) (Nat.le_refl _), q2, q2f, q1, q1f, hb2, by rw [HSZ.out]; exact Nat.le_refl _⟩
  case round =>
    obtain ⟨k, o, vs, hk, rfl, hM, hc2, hf2, hcr, hfr, hb, hsz⟩ := hrel
    clear hM0 hb2 hb1 hb0 q2 q2f q1 q1f
    by_cases hlt : k < r
    · have hki : (k : Int) < (r : Int) := by omega
      have hrow : wr.ownsRow (w.heap.size + 3) 22 1 o k vs := by simpa using hM.row
      obtain ⟨B, n, co, rfl⟩ := hM.isSlice
      have hsw := HS.out.below hb
      obtain ⟨bb, off, c9, A0, c0, hvv, _, hbb, hcx, hc9, hsr⟩ := hsw.rowF k hlt
      simp only [Value.slice.injEq] at hvv
      obtain ⟨rfl, z9, rfl⟩ := hvv
      obtain ⟨A1, c1, hA1, hcc1, hcc2, hx1⟩ := hsr
      simp only [bys_length, mkRow_length] at hA1 hcc1 hx1
      obtain ⟨b0, off0, hA2, hb0, hx⟩ := hx1 (by omega)
      simp only [Value.slice.injEq] at hA1
      obtain ⟨rfl, _, rfl⟩ := hA1
      subst hA2
      have HX := Lib.hid hx
      clear hx hx1 z9
      have kA : TurnIn 0 0 wr (wr.alloc (.cells #[] 5)).drew := TurnIn.of_below ((Below.refl _ _).alloc (Nat.le_refl _) _).drew
      have hob : ∀ g, (Value.slice B n co).ownBlock = some g → w.heap.size + 3 ≤ g := fun g e => (hrow.lt g e).1
      have hne2 : (Value.slice B n co).ownBlock ≠ some (w.heap.size + 2) := fun e => by have := hob _ e; omega
      have hne1 : (Value.slice B n co).ownBlock ≠ some (w.heap.size + 1) := fun e => by have := hob _ e; omega
      have hown0 : (wr.alloc (.cells #[] 5)).drew.ownsRow wr.heap.size 5 1 (.slice (some ⟨wr.heap.size, 0, none⟩) 0 0) 0 [] := (World.ownsRow_lit wr #[] 0 (Nat.le_refl _) (by unfold maxLen; omega) rfl).drew
      have hcA : (wr.alloc (.cells #[] 5)).cell? ⟨w.heap.size + 2, 0, none⟩ = some (.slice B n co) := cell_turn kA hc2 (by omega)
      have hys : ∀ j y, (bys (mkRow c (F k)))[j]? = some y → (wr.alloc (.cells #[] 5)).drew.cell? ((⟨b0, off0, none⟩ : Addr).add j) = some y := fun j y hj => by rw [Addr.add_lit]; exact cell_turn kA (HX.out j y hj) hb0
      have hyl : (bys (mkRow c (F k))).length = c := by simp
      have HYS := Lib.hid hys
      clear hys
      have HR := Lib.hid hrow
      have HM := Lib.hid hM
      clear hM hrow
      go_wp2_with fail
      go_region_law (first
        | (refine step_appendN (by rfl) _ _ _ (by rfl) wr.heap.size 5 _ _ Tryz.underlying22 infoByte rfl _ 0 [] (by rfl) hown0 ⟨b0, off0, none⟩ c c0 (bys (mkRow c (F k))) (by rfl) hyl HYS.out (bys_oneC _) (by omega) (by omega) (by simp) ?_; intro u1 w1 hown1 hg1 hv1; obtain ⟨C1, m1, d1, rfl⟩ := own_isSlice hown1; have k1 := turn_trans' kA hg1 (fun g e => by simp [Value.ownBlock] at e; omega); have hcB : w1.cell? ⟨w.heap.size + 2, 0, none⟩ = some (.slice B n co) := cell_turn k1 hc2 (by omega); have k2 : TurnIn 0 0 wr (w1.alloc (.cells #[.slice C1 m1 d1] 22)) := turn_trans k1 (turn_alloc _ _) (by omega); have hcC : (w1.alloc (.cells #[.slice C1 m1 d1] 22)).cell? ⟨w.heap.size + 2, 0, none⟩ = some (.slice B n co) := cell_turn k2 hc2 (by omega); have hs1 := k1.size)
        | (refine step_append1 (by rfl) _ _ _ (by rfl) (w.heap.size + 3) 22 _ _ Tryz.underlying68 infoRowB rfl _ k vs (by rfl) (owns_turn HR.out (fun g e => (HR.out.lt g e).2) k2 (by omega)) w1.heap.size (.slice C1 m1 d1) (by rfl) (by simp) (by rfl) (by omega) (by omega) (by simp; omega) ?_; intro v' w2 hown2 hg2 hv2; obtain ⟨A', n', cp', rfl⟩ := own_isSlice hown2; have hc2' := (cell_past k2 hg2 hne2 (by omega) 0).trans hc2; have hf2' := (frozen_past k2 hg2 hne2 (by omega) 0).trans hf2))
      all_goals
        have hR : OwnBytes 5 (w1.alloc (.cells #[.slice C1 m1 d1] 22)) wr.heap.size (w1.heap.size + 1) (.slice C1 m1 d1) (mkRow c (F k)) := by
          refine ⟨?_, by simp, fun g e => by have := (hown1.lt g e).2; omega⟩
          have e : w1.ownsRow wr.heap.size 5 1 (.slice C1 m1 d1) c (bys (mkRow c (F k))) := by simpa using hown1
          rw [mkRow_length]
          exact e.alloc _
        have hM5 := (((HM.out.push k2 hR (Nat.le_refl _) (by omega) (by simpa using hown2) hg2 hv2).keep (turn_setCell w2 (w.heap.size + 2) 0 (.slice A' n' cp')) (by omega)).congr (mkM_succ k c F).symm)
        have hw1 : wr.heap.size ≤ w2.heap.size := by have := hg2.size; have := k2.size; omega
        have hb5 : Below w.heap.size w (w2.setCell ⟨w.heap.size + 2, 0, none⟩ (.slice A' n' cp')) := Below.setCell (TurnIn.base (TurnIn.of_grown (lo := w.heap.size) (hi := w2.heap.size) hg2 (fun g e => ⟨by have := hob g e; omega, by have := (HM.out.out g e); omega⟩)) (k2.base hb (by omega) (by omega)) (by have := k2.size; omega) (by omega)) (Nat.le_add_right _ 2) _
        have hq0 := ((cell_past k2 hg2 hne1 (by omega) 0).trans hcr)
        have hq0f := ((frozen_past k2 hg2 hne1 (by omega) 0).trans hfr)
        clear hR hown1 hown2 hg1 hg2 hv1 hv2 hob hcA hcB hcC hb hcr hfr hcx k1 k2 kA hown0
        go_wp2_with fail
        go_roundw
        case rel => exact ⟨k + 1, .slice A' n' cp', vs ++ [.slice C1 m1 d1], by omega, by go_num, by simpa using hM5, World.cell?_setCell_same _ _ _ hc2', by simp [hf2'], (cell_set_other w2 _ _ _ (by omega)).trans hq0, (frozen_set_other w2 _ _ _ (by omega)).trans hq0f, hb5, by simp; omega⟩
        case measure => simp [intOf]; omega
    · obtain rfl : k = r := by omega
      have hki : ¬ (k : Int) < (k : Int) := by omega
      obtain ⟨B, n, co, rfl⟩ := hM.isSlice
      go_wp2_with fail
      refine bodyPost_ret (v := .agg #[.slice B n co]) (by simp [results, Tryz.results94, go_sem, hcr]) rfl ?_
      have kk := turn_setCell wr (w.heap.size + 1) 0 (.slice B n co)
      have hle : w.heap.size ≤ w.heap.size + 1 := Nat.le_succ _
      refine ⟨_, vs, rfl, (hM.keep kk (by omega)).wider (by omega) (by simp) (by simp), TurnIn.of_below (hb.setCell hle _)⟩
end Go.Proofs.YtblfobbeojdihaaGreatDoor

/- Shapes of codes: the program's goodDataCount and GoodShape, the model's GoodShape. -/
namespace G294
open Go Go.RowKit
def dataOk (k : Int) : Bool := decide (1 ≤ k ∧ k ≤ 8)
def shapeOk (k m : Int) : Bool := dataOk k && decide (1 ≤ m ∧ m ≤ 6)
theorem shapeOk_b {k m : Int} (h : shapeOk k m = true) : (1 ≤ k ∧ k ≤ 8) ∧ 1 ≤ m ∧ m ≤ 6 := by simpa [shapeOk, dataOk] using h
end G294
namespace Go.Proofs.YtblfobbeojdihaaGreatDoor
open Go.RowKit G294

end Go.Proofs.YtblfobbeojdihaaGreatDoor

/- Struct variables of a law: blocks of one cell, kept; sizes of results. -/
namespace G294
open Go Go.RowKit
theorem box_keep {w w' : World} {B a b : Nat} {x : Value} (h : w.cell? ⟨B, 0, none⟩ = some x) (hl : B < w.heap.size) (t : TurnIn a b w w') (d : B < a ∨ b ≤ B) : w'.cell? ⟨B, 0, none⟩ = some x :=
  (World.cell?_of_block (t.block B hl d)).trans h
theorem alloc_cell (w : World) (v : Value) (T : TypeId) : (w.alloc (.cells #[v] T)).cell? ⟨w.heap.size, 0, none⟩ = some v := by simp
theorem alloc_lt (w : World) (o : Obj) : w.heap.size < (w.alloc o).heap.size := by rw [World.size_alloc]; omega
theorem undrew {w w' : World} {a b : Nat} (t : TurnIn a b w.drew w') : TurnIn a b w w' := ⟨t.os, t.tape, t.output, t.size, t.block⟩
theorem transR_siz (m : Mat) : sizM (transR m) ≤ 256 := by
  unfold transR; split
  · rename_i h; have := (goodM_iff m).1 h; exact Nat.le_trans (Nat.le_trans (sizM_le_mul _ m.length (fun i hi => by rw [mkM_getD _ _ _ _ (by simpa using hi)]; simp)) (by rw [mkM_length]; exact Nat.mul_le_mul (show wid m ≤ 16 by omega) (show m.length ≤ 16 by omega))) (by omega)
  · simp [sizM]
theorem sizM_mkM (r c : Nat) (F : Ents) : sizM (mkM r c F) ≤ r * c := by
  have := sizM_le_mul (mkM r c F) c (fun i hi => by rw [mkM_getD _ _ _ _ (by simpa using hi)]; simp)
  simpa using this
theorem sizM_side {r c : Nat} (F : Ents) (hr : r ≤ 16) (hc : c ≤ 16) : sizM (mkM r c F) ≤ 256 := Nat.le_trans (sizM_mkM r c F) (Nat.mul_le_mul hr hc)
theorem idR_siz (n : Int) : sizM (idR n) ≤ 256 := by
  unfold idR; split
  · rename_i h; simp [goodI] at h; exact sizM_side _ (by omega) (by omega)
  · simp [sizM]
theorem sides_b {r c : Int} (h : sidesOk r c = true) : r.toNat ≤ 16 ∧ c.toNat ≤ 16 := by
  simp [sidesOk, goodI] at h; omega
theorem vandR_siz (r c : Int) : sizM (vandR r c) ≤ 256 := by
  unfold vandR; split
  · rename_i h; exact sizM_side _ (sides_b h).1 (sides_b h).2
  · simp [sizM]
theorem cauR_siz (r c : Int) : sizM (cauR r c) ≤ 256 := by
  unfold cauR; split
  · rename_i h; exact sizM_side _ (sides_b h).1 (sides_b h).2
  · simp [sizM]
theorem LieM.isSlice {w : World} {lo hi : Nat} {v : Value} {L : Mat} (h : LieM w lo hi v L) : ∃ A n c, v = .slice A n c := by
  obtain ⟨A, c, e, _⟩ := h.seen.len
  exact ⟨A, _, c, e⟩
end G294

/- CodeMatrix: the program's and the model's. -/
namespace G294
open Go Go.RowKit
/-- append(s, x...) of a row of one-cell elements, onto a row of the call's own -/
theorem wpList_appendN {P : Program} {w : World} {ops : Array Oper} {rest : List Oper} {o : Oper} {a : Act} {Q : Exit → Act → World → Prop} (hgd : o.guard = none) (s x : Operand) (t : TypeId)
    (ho : o.op = .call { callee := .builtin .append, args := #[s, x], argTypes := #[t, t] })
    (base : Nat) (e : TypeId) (z : Value) (bytes : Nat) (ht : P.underlying t = some (.slice e)) (hinfo : (P.info? e).map (fun i => (i.zero, i.size, i.bytes)) = some (some z, 1, bytes)) (hzs : z.cells.size = 1)
    (v : Value) (n : Nat) (xs : List Value) (hs : a.eval s = v) (hown : w.ownsRow base e 1 v n xs)
    (A : Addr) (m c : Nat) (ys : List Value) (hx : a.eval x = .slice (some A) m c) (hl : ys.length = m) (hc : ∀ j y, ys[j]? = some y → w.cell? (A.add j) = some y) (h1 : ∀ y, y ∈ ys → y.oneCell' = true)
    (hn : n + m ≤ 1000000000) (hby : bytes ≤ 1000) (hbase : base ≤ w.heap.size)
    (h : ∀ v' w', w'.ownsRow base e 1 v' (n + m) (xs ++ ys) → w.grownBy w' v.ownBlock → (v'.ownBlock = v.ownBlock ∨ v'.ownBlock = some w.heap.size) → wpList P ops Q rest (a.put o.dst v') w') :
    wpList P ops Q (o :: rest) a w := by
  obtain ⟨i, hi, hz, hsz, hbs⟩ := info_parts hinfo
  refine wpList_append_own_at w hgd s x t ho base e i z 1 bytes ht hi hz hsz hbs hzs (by omega) v n xs hs hown A m c ys hx (by omega) hc h1 (by unfold maxLen; omega) ?_ hbase (fun v' w' h2 h3 _ h5 => h v' w' h2 h3 h5)
  have : (n + m) * bytes ≤ 1000000000 * 1000 := Nat.mul_le_mul (by omega) hby
  omega
/-- the rows of two matrices of the call's own, one behind the other -/
theorem OwnM.join {E EE : TypeId} {w w1 : World} {lo hi a b : Nat} {v v' u : Value} {L M : Mat} {vs us : List Value} (h : OwnM E EE w lo hi v L vs) (hu : OwnM E EE w a b u M us) (h1 : hi ≤ a) (h2 : lo ≤ a)
    (ho : w1.ownsRow lo EE 1 v' (L.length + M.length) (vs ++ us)) (hg : w.grownBy w1 v.ownBlock) (hv : v'.ownBlock = v.ownBlock ∨ v'.ownBlock = some w.heap.size) : OwnM E EE w1 lo w1.heap.size v' (L ++ M) (vs ++ us) := by
  have hvl := h.vlen
  have hul := hu.vlen
  have hs := hg.size
  have hob : ∀ g, v.ownBlock = some g → g < hi := h.out
  have ht := h.top
  have key : ∀ (i : Nat) (x : Value), (vs ++ us)[i]? = some x → (i < L.length ∧ vs[i]? = some x) ∨ (L.length ≤ i ∧ us[i - L.length]? = some x) := by
    intro i x hi'
    rcases Nat.lt_or_ge i vs.length with hlt | hge
    · rw [List.getElem?_append_left hlt] at hi'; exact .inl ⟨by omega, hi'⟩
    · rw [List.getElem?_append_right hge, hvl] at hi'
      exact .inr ⟨by omega, hi'⟩
  have low : ∀ (i : Nat) (x : Value) (g : Nat), vs[i]? = some x → x.ownBlock = some g → g < hi := fun i x g e1 e2 => (h.rows i x e1).2.2 g e2
  have high : ∀ (i : Nat) (x : Value) (g : Nat), us[i]? = some x → x.ownBlock = some g → a ≤ g := fun i x g e1 e2 => ((hu.rows i x e1).1.lt g e2).1
  refine ⟨by simpa using ho, Nat.le_refl _, fun g e => (ho.lt g e).2, ?_, ?_⟩
  · intro i x hi'
    rcases key i x hi' with ⟨h3, h4⟩ | ⟨h3, h4⟩
    · have e : (L ++ M).getD i [] = L.getD i [] := by simp [List.getD, List.getElem?_append_left h3]
      rw [e]
      exact ((h.rows i x h4).other hg (fun g e1 e2 => (h.apart i x g h4 e1).1 e2)).wider (Nat.le_refl _) (by omega) (Nat.le_refl _)
    · have e : (L ++ M).getD i [] = M.getD (i - L.length) [] := by simp [List.getD, List.getElem?_append_right h3]
      rw [e]
      exact ((hu.rows _ x h4).other hg (fun g e1 e2 => by have := high _ x g h4 e1; have := hob g e2; omega)).wider h2 (by have := hu.top; omega) (Nat.le_refl _)
  · intro i x g hi' hgx
    have hlt : g < w.heap.size := by
      rcases key i x hi' with ⟨_, h4⟩ | ⟨_, h4⟩
      · exact ((h.rows i x h4).1.lt g hgx).2
      · exact ((hu.rows _ x h4).1.lt g hgx).2
    refine ⟨fun e => ?_, fun j y hj hgy => ?_⟩
    · rcases hv with e2 | e2
      · rw [e2] at e
        rcases key i x hi' with ⟨_, h4⟩ | ⟨_, h4⟩
        · exact (h.apart i x g h4 hgx).1 e
        · have := high _ x g h4 hgx; have := hob g e; omega
      · rw [e2] at e; simp at e; omega
    · rcases key i x hi' with ⟨h3, h4⟩ | ⟨h3, h4⟩ <;> rcases key j y hj with ⟨h5, h6⟩ | ⟨h5, h6⟩
      · exact (h.apart i x g h4 hgx).2 j y h6 hgy
      · have := low i x g h4 hgx; have := high _ y g h6 hgy; omega
      · have := low j y g h6 hgy; have := high _ x g h4 hgx; omega
      · have := (hu.apart _ x g h4 hgx).2 _ y h6 hgy; omega
/-- a store into a block that is none of its own -/
theorem OwnM.other {E EE : TypeId} {w w' : World} {lo hi B : Nat} {v : Value} {L : Mat} {vs : List Value} (h : OwnM E EE w lo hi v L vs) (hg : w.grownBy w' (some B)) (hv : v.ownBlock ≠ some B) (hr : ∀ u ∈ vs, u.ownBlock ≠ some B) : OwnM E EE w' lo hi v L vs :=
  ⟨own_other h.row hg (fun g e e2 => by cases e2; exact hv e), Nat.le_trans h.top hg.size, h.out, fun i u hu => (h.rows i u hu).other hg (fun g e e2 => by cases e2; exact hr u (List.mem_of_getElem? hu) e), h.apart⟩
theorem OwnM.rowBlock {E EE : TypeId} {w : World} {lo hi : Nat} {v : Value} {L : Mat} {vs : List Value} (h : OwnM E EE w lo hi v L vs) : ∀ u ∈ vs, ∀ g, u.ownBlock = some g → lo ≤ g ∧ g < hi := fun u hu g e => by
  obtain ⟨i, hi, rfl⟩ := List.getElem_of_mem hu
  have := h.rows i _ (List.getElem?_eq_getElem hi)
  exact ⟨(this.1.lt g e).1, this.2.2 g e⟩
theorem grown_set {w : World} (B o : Nat) (x : Value) : w.grownBy (w.setCell ⟨B, o, none⟩ x) (some B) := by
  have t := turn_setCell w B o x
  exact ⟨t.os, t.tape, t.output, t.size, fun k hk hne => t.block k hk (by have : k ≠ B := fun e => hne (by rw [e]); omega)⟩
theorem rows_oneC {E EE : TypeId} {w : World} {lo hi : Nat} {v : Value} {L : Mat} {vs : List Value} (h : OwnM E EE w lo hi v L vs) : ∀ y, y ∈ vs → y.oneCell' = true := fun y hy => by
  obtain ⟨i, hi, rfl⟩ := List.getElem_of_mem hy
  obtain ⟨A, n, c, e⟩ := own_isSlice (h.rows i _ (List.getElem?_eq_getElem hi)).1
  rw [e]; rfl
/-- the matrix of a code -/
def codF (k : Nat) : Ents := fun i j => if i < k then idF i j else cauF k (i - k) j
def codM (k m : Nat) : Mat := mkM (k + m) k (codF k)
theorem codM_eq (k m : Nat) : mkM k k idF ++ mkM m k (cauF k) = codM k m := by
  apply List.ext_getElem
  · simp [codM]
  · intro i h1 h2
    rcases Nat.lt_or_ge i k with h | h
    · rw [List.getElem_append_left (by simpa using h)]
      simp only [codM, mkM, List.getElem_map, List.getElem_range]
      exact mkRow_congr fun j _ => by simp [codF, h]
    · rw [List.getElem_append_right (by simpa using h)]
      simp only [codM, mkM, List.getElem_map, List.getElem_range, List.length_map, List.length_range]
      exact mkRow_congr fun j _ => by simp [codF, Nat.not_lt.2 h]
def codR (k m : Int) : Mat := if shapeOk k m then codM k.toNat m.toNat else []
theorem codR_yes {k m : Nat} (h : shapeOk k m = true) : codR k m = codM k m := by unfold codR; rw [if_pos h]; simp
theorem codR_no {k m : Int} (h : shapeOk k m = false) : codR k m = [] := by unfold codR; rw [if_neg (by rw [h]; simp)]
theorem codR_siz (k m : Int) : sizM (codR k m) ≤ 256 := by
  unfold codR; split
  · rename_i h
    have := shapeOk_b h
    exact sizM_side _ (by omega) (by omega)
  · simp [sizM]
end G294
namespace Go.Proofs.YtblfobbeojdihaaGreatDoor
open Go.RowKit G294

end Go.Proofs.YtblfobbeojdihaaGreatDoor

/- Chapter 8: slices.Concat of two lists of bytes; slices.Reverse of bytes. -/
namespace Go.Proofs.YtblfobbeojdihaaGreatDoor
open Go.RowKit G294

set_option maxRecDepth 100000 in
set_option maxHeartbeats 2000000 in
theorem growB_own (n : Nat) (w : World) (h1 : 1 ≤ n) (h2 : n ≤ 100000) : Calls Tryz.prog 59 #[.slice none 0 0, .int .i64 n] w (RetBytes 5 w []) := by
  obtain ⟨i0, hi, hz0, hz1, hz2⟩ := info_parts infoByte
  have hap := Lib.run_append_nil_zeros (P := Tryz.prog) w 22 3 22 5 i0 (.int .u8 0) .i64 .i64 Tryz.underlying22 Tryz.underlying3 hi hz0 n (by omega) (by omega) (by omega) (by rw [hz2]; omega)
  have hcg := grownCap_ge w n 0 5
  have hcm := grownCap_le_maxLen w n 0 5 (by unfold maxLen; omega)
  generalize grownCap w n 0 5 = cp at *
  have hcsz : (Builtin.zeroCells (Value.int .u8 0).cells n ++ Builtin.zeroCells (Value.int .u8 0).cells (cp - n)).size = cp := by
    simp [Builtin.zeroCells, Value.cells]; omega
  generalize (Builtin.zeroCells (Value.int .u8 0).cells n ++ Builtin.zeroCells (Value.int .u8 0).cells (cp - n)) = cur at *
  have HCS := Lib.hid hcsz
  have HCM := Lib.hid hcm
  clear hcsz
  unfold maxLen at hcm
  have hn0 : ¬ (n : Int) < 0 := by omega
  have hn1 : (0 : Int) < (n : Int) := by omega
  go_enter Tryz.func59, Tryz.ntmps59
  go_wp2_with (at_builtin; refine Lib.wpList_append_run _ rfl _ _ _ _ rfl _ _ rfl rfl _ _ hap ?_)
  go_wp2_with fail
  go_ret
  refine ⟨_, rfl, OwnBytes.of_made ?_, TurnIn.of_below ?_⟩
  · refine ⟨by simp [bys], .inr ⟨w.heap.size, cp, cur, rfl, Nat.le_refl _, by first | exact heap_alloc_new w.drew _ | exact heap_alloc_new w _, Nat.zero_le _, HCM.out, by rw [HCS.out]; omega, by simp [bys]⟩⟩
  · exact (Below.refl _ _).drew.alloc (Nat.le_refl _) _

set_option maxRecDepth 100000 in
set_option maxHeartbeats 4000000 in
theorem concatB_own (va vb : Value) (L M : List UInt8) (B : Nat) (w : World) (hB : B < w.heap.size) (c0 : w.cell? ⟨B, 0, none⟩ = some va) (c1 : w.cell? ⟨B, 1, none⟩ = some vb) (ha : Seen w va (bys L)) (hb' : Seen w vb (bys M))
    (hl1 : 1 ≤ L.length) (hl2 : L.length ≤ 1000) (hm1 : 1 ≤ M.length) (hm2 : M.length ≤ 1000) :
    Calls Tryz.prog 27 #[.slice (some ⟨B, 0, none⟩) 2 2] w (RetBytes 5 w (L ++ M)) := by
  obtain ⟨A, c, rfl, hlc, hcm, hx⟩ := ha
  obtain ⟨A', c', rfl, hlc', hcm', hx'⟩ := hb'
  rw [bys_length] at hlc hx hlc' hx' c0 c1
  unfold maxLen at hcm hcm'
  obtain ⟨b, off, rfl, hbl, hcell⟩ := hx (by omega)
  obtain ⟨b', off', rfl, hbl', hcell'⟩ := hx' (by omega)
  have HC0 := Lib.hid hcell
  have HC1 := Lib.hid hcell'
  clear hcell hcell' hx hx'
  generalize hnn : L.length = n at *
  generalize hmm : M.length = m at *
  have HN : Hid ((bys L).length = n) := by show (bys L).length = n; simpa using hnn
  have HM : Hid ((bys M).length = m) := by show (bys M).length = m; simpa using hmm
  have HNM : Hid ((L ++ M).length = n + m) := by show (L ++ M).length = n + m; simp [hnn, hmm]
  have HA : Hid (bys (L ++ M) = bys L ++ bys M) := bys_append L M
  clear hnn hmm
  have hs1 : IntKind.i64.wrap ((n : Int) + (m : Int)) = ((n + m : Nat) : Int) := by rw [IntWalk.i64_in _ (by omega)]; omega
  have hs0 : IntKind.i64.wrap (0 + (n : Int)) = (n : Int) := by rw [IntWalk.i64_in _ (by omega)]; omega
  have hp0 : ¬ (n : Int) < 0 := by omega
  have hp1 : ¬ ((n + m : Nat) : Int) < 0 := by omega
  obtain ⟨s, hs⟩ : ∃ s, s = n + m := ⟨_, rfl⟩
  rw [← hs] at hs1 hp1
  have HS := Lib.hid hs
  clear hs
  go_enter Tryz.func27, Tryz.ntmps27
  go_wp2_with fail
  go_loop [3, 11] (fun z i => (i = .int .i64 0 ∧ z = .int .i64 0) ∨ (i = .int .i64 1 ∧ z = .int .i64 n) ∨ (i = .int .i64 2 ∧ z = .int .i64 s)) (fun _ i => 2 - (intOf i).toNat)
  case atStart => exact .inl ⟨rfl, rfl⟩
  case round =>
    rcases hrel with ⟨rfl, rfl⟩ | ⟨rfl, rfl⟩ | ⟨rfl, rfl⟩
    · go_wp2_with fail
      go_round
      case rel => exact .inr (.inl ⟨by go_num, by first | rfl | go_num⟩)
      case measure => simp [intOf]
    · go_wp2_with fail
      go_round
      case rel => exact .inr (.inr ⟨by go_num, by first | rfl | go_num⟩)
      case measure => simp [intOf]
    · go_wp2_with fail
      refine (growB_own s _ (by rw [HS.out]; omega) (by rw [HS.out]; omega)).mono ?_
      rintro e w1 ⟨v1, rfl, ho1, k1⟩
      have HO1 := Lib.hid ho1.1
      have hb1 := k1.to_below
      clear ho1 k1
      go_wp2_with fail
      go_loopw [6, 27] (fun o i wr => ((i = .int .i64 0 ∧ wr.ownsRow w.heap.size 5 1 o 0 []) ∨ (i = .int .i64 1 ∧ wr.ownsRow w.heap.size 5 1 o n (bys L)) ∨ (i = .int .i64 2 ∧ wr.ownsRow w.heap.size 5 1 o (n + m) (bys L ++ bys M))) ∧ Below w.heap.size w wr) (fun _ i _ => 2 - (intOf i).toNat)
      case atStart => exact ⟨.inl ⟨rfl, HO1.out⟩, hb1⟩
      case round =>
        obtain ⟨hd, hb⟩ := hrel
        clear hb1 HO1
        have d0 := (hb.cell (p := ⟨B, 0, none⟩) hB).trans c0
        have d1 := (hb.cell (p := ⟨B, 1, none⟩) hB).trans c1
        rcases hd with ⟨rfl, hown⟩ | ⟨rfl, hown⟩ | ⟨rfl, hown⟩
        · have hys : ∀ j y, (bys L)[j]? = some y → wr.cell? ((⟨b, off, none⟩ : Addr).add j) = some y := fun j y hj => by rw [Addr.add_lit]; exact (hb.cell (p := ⟨b, off + j, none⟩) hbl).trans (HC0.out j y hj)
          have HYS := Lib.hid hys
          have HOW := Lib.hid hown
          have hsz := hb.size
          have hob : ∀ g, u6.ownBlock = some g → w.heap.size ≤ g := fun g e => (hown.lt g e).1
          have HOB := Lib.hid hob
          clear hys hob hown
          go_wp2_with (at_builtin; refine wpList_appendN rfl _ _ _ rfl w.heap.size 5 _ _ Tryz.underlying22 infoByte rfl _ 0 [] rfl HOW.out ⟨b, off, none⟩ n c (bys L) rfl HN.out HYS.out ((fun y hy => bys_one y _ hy)) ?c1 ?c2 ?c3 ?_)
          case c1 => omega
          case c2 => omega
          case c3 => exact hsz
          intro v2 w2 ho2 hg2 hv2
          have hb2 : Below w.heap.size w w2 := hb.grown hg2 hsz (fun g e => HOB.out g e)
          have HO2 : Hid (w2.ownsRow w.heap.size 5 1 v2 n (bys L)) := Lib.hid (by simpa using ho2)
          clear ho2 hg2
          go_wp2_with fail
          go_roundw
          case rel => exact ⟨.inr (.inl ⟨by go_num, HO2.out⟩), hb2⟩
          case measure => simp [intOf]
        · have hys : ∀ j y, (bys M)[j]? = some y → wr.cell? ((⟨b', off', none⟩ : Addr).add j) = some y := fun j y hj => by rw [Addr.add_lit]; exact (hb.cell (p := ⟨b', off' + j, none⟩) hbl').trans (HC1.out j y hj)
          have HYS := Lib.hid hys
          have HOW := Lib.hid hown
          have hsz := hb.size
          have hob : ∀ g, u6.ownBlock = some g → w.heap.size ≤ g := fun g e => (hown.lt g e).1
          have HOB := Lib.hid hob
          clear hys hob hown
          go_wp2_with (at_builtin; refine wpList_appendN rfl _ _ _ rfl w.heap.size 5 _ _ Tryz.underlying22 infoByte rfl _ n (bys L) rfl HOW.out ⟨b', off', none⟩ m c' (bys M) rfl HM.out HYS.out ((fun y hy => bys_one y _ hy)) ?c1 ?c2 ?c3 ?_)
          case c1 => omega
          case c2 => omega
          case c3 => exact hsz
          intro v2 w2 ho2 hg2 hv2
          have hb2 : Below w.heap.size w w2 := hb.grown hg2 hsz (fun g e => HOB.out g e)
          have HO2 := Lib.hid ho2
          clear ho2 hg2
          go_wp2_with fail
          go_roundw
          case rel => exact ⟨.inr (.inr ⟨by go_num, HO2.out⟩), hb2⟩
          case measure => simp [intOf]
        · have HOW := Lib.hid hown
          clear hown
          go_wp2_with fail
          go_ret
          refine ⟨_, rfl, OwnBytes.of_made ?_, TurnIn.of_below hb⟩
          rw [HNM.out, HA.out]; exact HOW.out

end Go.Proofs.YtblfobbeojdihaaGreatDoor

/- Chapter 8: the division, and EncodeWord: the program's. -/
namespace G294
open Go Go.RowKit
def lenOfS : Value → Nat
  | .slice _ n _ => n
  | _ => 0
theorem own_short {w : World} {E : TypeId} {base g n c k : Nat} {xs : List Value} (h : w.ownsRow base E 1 (.slice (some ⟨g, 0, none⟩) n c) n xs) (hk : k ≤ n) : w.ownsRow base E 1 (.slice (some ⟨g, 0, none⟩) k c) k (xs.take k) := by
  have hl := h.1
  rcases h.2 with ⟨hh, _⟩ | ⟨g', cap, cur, e, hbg, hg, hnc, hcm, hcs, ht⟩
  · simp at hh
  · simp only [Value.slice.injEq, Option.some.injEq, Addr.mk.injEq, and_true, true_and] at e
    obtain ⟨rfl, rfl⟩ := e
    refine ⟨by rw [List.length_take]; omega, .inr ⟨g, c, cur, rfl, hbg, hg, by omega, hcm, hcs, ?_⟩⟩
    rw [← ht, List.take_take]
    congr 1; omega
theorem bys_takeF (n k : Nat) (F : Nat → UInt8) (h : k ≤ n) : (bys (mkRow n F)).take k = bys (mkRow k F) := by
  simp only [bys, ← List.map_take]
  congr 1
  refine List.ext_getElem (by simp; omega) fun j h1 h2 => by simp [mkRow]
theorem rem_set (g : List UInt8) (a : Nat) (f : UInt8) (F : Nat → UInt8) (n j : Nat) : (mkRow n (remI g a f F j)).set (a + j) (F (a + j) ^^^ gmul f (g.getD j 0)) = mkRow n (remI g a f F (j + 1)) := by
  rw [mkRow_set]
  exact mkRow_congr fun p _ => remI_step g a f F j p
theorem encOk8_b {d : List UInt8} {m : Nat} (h1 : 1 ≤ m) (h4 : m ≤ 4) : encOk8 d (m : Int) = sizB m (2 * m + d.length) := by
  simp only [encOk8, errT, sizB]
  rw [show decide (1 ≤ (m : Int) ∧ (m : Int) ≤ 4) = true by simp; omega, Bool.true_and, decide_eq_decide]
  omega
theorem encOk8_no {d : List UInt8} {t : Int} (h : errT t = false) : encOk8 d t = false := by simp [encOk8, h]
end G294
namespace Go.Proofs.YtblfobbeojdihaaGreatDoor
open Go.RowKit G294

set_option maxRecDepth 100000 in
set_option maxHeartbeats 4000000 in
theorem remainderBy_own (v u : Value) (l d : List UInt8) (w : World) (hv : Seen w v (bys l)) (hu : Seen w u (bys d)) (hd1 : 1 ≤ d.length) (hld : d.length ≤ l.length) (hl : l.length ≤ 1000) (ht : Tab w) (h0 : 3 < w.heap.size) :
    Calls Tryz.prog 28 #[v, u] w (RetBytes 5 w (leftL l d)) := by
  have HCL := Lib.hid (cloneB_own v l w hv (by omega) (by omega))
  obtain ⟨A, c, rfl, _, _, _⟩ := hv
  obtain ⟨b, off, cd, rfl, hbl, hdm, hcell⟩ := seen_cellsB hu hd1
  have HX := Lib.hid hcell
  have HT := Lib.hid ht
  simp only [bys_length] at *
  clear hcell ht hu
  have HLL : Hid (leftL l d = mkRow (d.length - 1) (remF d l.length (fun i => l.getD i 0) (l.length + 1 - d.length))) := rfl
  have HL0 : Hid (bys l = bys (mkRow l.length (remF d l.length (fun i => l.getD i 0) 0))) := by
    show _ = _
    congr 1
    exact ext_getD (by simp) fun j hj => by rw [mkRow_getD _ _ _ hj]; rfl
  generalize hF : (fun i => l.getD i 0) = F0 at *
  generalize hnn : l.length = n at *
  generalize hgg : d.length = gl at *
  have HN := Lib.hid hnn
  have HG := Lib.hid hgg
  clear hnn hgg hF
  have HML : Hid (∀ (k : Nat) (F : Nat → UInt8), (mkRow k F).length = k) := fun k F => by simp
  go_enter Tryz.func28, Tryz.ntmps28
  go_wp2_with fail
  refine HCL.out.mono ?_
  rintro e w1 ⟨v1, rfl, o1, k1⟩
  obtain ⟨g, cp, rfl, hg1, hg2, hcp1, hcp2⟩ := o1.slice (by rw [HN.out]; omega)
  rw [HN.out] at hcp1 ⊢
  have o1' := o1.1
  rw [HN.out, HL0.out] at o1'
  have hb1 := k1.to_below
  unfold maxLen at hcp2
  clear o1 k1
  go_wp2_with fail
  go_loopw [5] (fun o wr => ∃ m r : Nat, r + m = n ∧ gl ≤ r + 1 ∧ o = .slice (some ⟨g, 0, none⟩) r cp ∧ wr.ownsRow w.heap.size 5 1 (.slice (some ⟨g, 0, none⟩) n cp) n (bys (mkRow n (remF d n F0 m))) ∧ Below w.heap.size w wr ∧ g < wr.heap.size)
    (fun o _ => lenOfS o)
  case atStart => exact ⟨0, n, rfl, by omega, rfl, o1', hb1, hg2⟩
  case round =>
    obtain ⟨m, r, hrm, hgr, rfl, hown, hb, hgz⟩ := hrel
    clear o1' hb1 hg2
    by_cases hlt : gl ≤ r
    · obtain ⟨q, rfl⟩ : ∃ q, r = q + 1 := ⟨r - 1, by omega⟩
      obtain ⟨a, ha⟩ : ∃ a, a = q + 1 - gl := ⟨_, rfl⟩
      obtain ⟨s, hs⟩ : ∃ s, s = q + 1 := ⟨_, rfl⟩
      have hag : a + gl = s := by omega
      have hqs : q < s := by omega
      rw [← hs] at hrm hgr hlt ⊢
      have hi1 : (gl : Int) ≤ (s : Int) := by omega
      have hw1 : IntKind.i64.wrap ((s : Int) - 1) = (q : Int) := by rw [IntWalk.i64_in _ (by omega)]; omega
      have hw2 : IntKind.i64.wrap ((s : Int) - (gl : Int)) = (a : Int) := by rw [IntWalk.i64_in _ (by omega)]; omega
      have hcq := own_cell8 hown (HML.out _ _).symm (k := q) (by omega)
      rw [mkRow_getD _ _ _ (by omega)] at hcq
      have HREM : Hid (remF d n F0 (m + 1) = remI d a (remF d n F0 m q) (remF d n F0 m) gl) := by
        show remI d (n - m - d.length) (remF d n F0 m (n - 1 - m)) (remF d n F0 m) d.length = _
        rw [HG.out, show n - m - gl = a by omega, show n - 1 - m = q by omega]
      have HRZ : Hid (∀ f, bys (mkRow n (remI d a f (remF d n F0 m) 0)) = bys (mkRow n (remF d n F0 m))) := fun f => by
        congr 1; exact mkRow_congr fun p _ => remI_zero d a f _ p
      generalize hf : remF d n F0 m q = f at *
      have HQ : Hid (q + 1 + m = n) := by show _ = _; omega
      clear ha hs hf
      go_wp2_with fail
      have hsa : s - a = gl := by omega
      rw [hsa]
      generalize cp - a = cq at *
      clear hsa
      generalize wr = wo at *
      go_loopw [34] (fun i wq => ∃ j : Nat, j ≤ gl ∧ i = .int .i64 j ∧ wq.ownsRow w.heap.size 5 1 (.slice (some ⟨g, 0, none⟩) n cp) n (bys (mkRow n (remI d a f (remF d n F0 m) j))) ∧ Below w.heap.size w wq ∧ g < wq.heap.size)
        (fun i _ => gl - (intOf i).toNat)
      case atStart => exact ⟨0, Nat.zero_le _, rfl, by rw [HRZ.out]; exact hown, hb, hgz⟩
      case round =>
        obtain ⟨j, hj, rfl, ho, hbq, hgq⟩ := hrel
        clear hown hb hgz hcq
        by_cases hlj : j < gl
        · have hji : (j : Int) < (gl : Int) := by omega
          have hjd : j < d.length := by rw [HG.out]; exact hlj
          have hdj := HX.out _ hbq j _ (bys_get d j hjd)
          rw [Addr.add_lit] at hdj
          rw [show d[j] = d.getD j 0 by simp [List.getD, hjd]] at hdj
          have hpn : a + j < n := by omega
          have hce := own_cell8 ho (HML.out _ _).symm (k := a + j) hpn
          rw [mkRow_getD _ _ _ hpn, remI_at] at hce
          have hst := own_set8 ho (a + j) (remF d n F0 m (a + j) ^^^ gmul f (d.getD j 0))
          rw [rem_set] at hst
          have hfr := ho.frozenAt (a + j)
          have hbs : Below w.heap.size w (wr.setCell ⟨g, a + j, none⟩ (.int .u8 ((remF d n F0 m (a + j) ^^^ gmul f (d.getD j 0)).toNat : Int))) := hbq.setCell hg1 _
          have HC := Lib.hid (stillA (times_u8 f (d.getD j 0) wr.drew (HT.out.below hbq.drew h0)))
          have hxor := xor_u8 (remF d n F0 m (a + j)) (gmul f (d.getD j 0))
          generalize remF d n F0 m (a + j) = y at *
          generalize d.getD j 0 = x at *
          have HST := Lib.hid hst
          have HBS := Lib.hid hbs
          clear hst hbs ho
          go_wp2_with fail
          refine wp_region_still_tail 9 (by kernel_rfl) (by kernel_rfl) ?_
          simp only [List.take_succ_cons, List.take_zero, List.drop_succ_cons, List.drop_zero]
          repeat (first | still_step | still_call (HC.out))
          refine wpStill_nil ?_
          go_wp2_with fail
          go_roundw
          case rel => exact ⟨j + 1, by omega, by go_num, HST.out, below_drewN HBS.out _, by simpa using hgq⟩
          case measure => simp [intOf]; omega
        · obtain rfl : j = gl := by omega
          have hji : ¬ (j : Int) < (j : Int) := by omega
          go_wp2_with fail
          go_roundw
          case rel => exact ⟨m + 1, q, by have := HQ.out; omega, by have := HQ.out; omega, rfl, by rw [HREM.out]; exact ho, hbq, hgq⟩
          case measure => have := HQ.out; simp [lenOfS]; omega
    · have hi1 : ¬ (gl : Int) ≤ (r : Int) := by omega
      have hsh := own_short hown (k := r) (by omega)
      rw [bys_takeF _ _ _ (by omega)] at hsh
      have HSH := Lib.hid hsh
      have HM : Hid (l.length + 1 - d.length = m ∧ d.length - 1 = r) := by show _ ∧ _; rw [HN.out, HG.out]; omega
      clear hown hsh
      go_wp2_with fail
      go_ret
      refine ⟨_, rfl, OwnBytes.of_made ?_, TurnIn.of_below hb⟩
      rw [HLL.out, HML.out, show gl - 1 = r by omega, show n + 1 - gl = m by omega]
      exact HSH.out

end Go.Proofs.YtblfobbeojdihaaGreatDoor

/- Chapter 8: the division, and EncodeWord: the model's. -/
namespace Go.Proofs.YtblfobbeojdihaaGreatDoor
open Go.RowKit G294

set_option maxRecDepth 100000 in
set_option maxHeartbeats 4000000 in
theorem l8Left_own (v u : Value) (l d : List UInt8) (w : World) (hv : Seen w v (bys l)) (hu : Seen w u (bys d)) (hd1 : 2 ≤ d.length) (hld : d.length ≤ l.length) (hl : l.length ≤ 1000) :
    Calls Tryz.prog 30 #[v, u] w (RetBytes 5 w (leftL l d)) := by
  obtain ⟨b0, off0, c0, rfl, hbl0, hlm0, hcell0⟩ := seen_cellsB hv (by omega)
  obtain ⟨b, off, cd, rfl, hbl, hdm, hcell⟩ := seen_cellsB hu (by omega)
  have hbA : Below w.heap.size w (w.alloc (.cells #[] 5)) := (Below.refl _ _).alloc (Nat.le_refl _) _
  obtain ⟨cp, w1, hap, ho1, kA⟩ := run_appLit (P := Tryz.prog) (w.alloc (.cells #[] 5)) 22 22 5 _ _ Tryz.underlying22 infoByte rfl ⟨w.heap.size, 0, none⟩ ⟨b0, off0, none⟩ l.length c0 (bys l) (by omega) (bys_length _) (hcell0 _ hbA) (fun y hy => bys_one y l hy) (by omega) (by omega)
  rw [World.size_alloc] at hap ho1
  have hb1 : Below w.heap.size w w1 := kA.base hbA (by simp) (by omega)
  have hcp : l.length ≤ cp ∧ cp ≤ maxLen := by
    rcases ho1.2 with ⟨hh, _⟩ | ⟨g', cap, cur, e, hbg, hg, hnc, hcm, hcs, ht⟩
    · simp at hh
    · simp only [Value.slice.injEq] at e
      exact ⟨by omega, by omega⟩
  obtain ⟨g, hg⟩ : ∃ g, g = w.heap.size + 1 := ⟨_, rfl⟩
  rw [← hg] at hap ho1
  have hg1 : w.heap.size ≤ g := by omega
  have hg2 : g < w1.heap.size := (ho1.lt g rfl).2
  have o1' : w1.ownsRow w.heap.size 5 1 (.slice (some ⟨g, 0, none⟩) l.length cp) l.length (bys l) := own_base ho1 (by omega)
  have HX := Lib.hid hcell
  clear hcell hcell0 hv hu kA ho1 hg
  obtain ⟨hcp1, hcp2⟩ := hcp
  unfold maxLen at hcp2
  have HLL : Hid (leftL l d = mkRow (d.length - 1) (remF d l.length (fun i => l.getD i 0) (l.length + 1 - d.length))) := rfl
  have HL0 : Hid (bys l = bys (mkRow l.length (remF d l.length (fun i => l.getD i 0) 0))) := by
    show _ = _
    congr 1
    exact ext_getD (by simp) fun j hj => by rw [mkRow_getD _ _ _ hj]; rfl
  rw [HL0.out] at o1'
  have HAP := Lib.hid hap
  clear hap
  generalize hF : (fun i => l.getD i 0) = F0 at *
  generalize hnn : l.length = n at *
  generalize hgg : d.length = gl at *
  have HN := Lib.hid hnn
  have HG := Lib.hid hgg
  clear hnn hgg hF
  have HML : Hid (∀ (k : Nat) (F : Nat → UInt8), (mkRow k F).length = k) := fun k F => by simp
  have HO1 := Lib.hid o1'
  clear o1' hbA
  obtain ⟨n0, hn0⟩ : ∃ n0, n = n0 + 1 := ⟨n - 1, by omega⟩
  have hw0 : IntKind.i64.wrap ((n : Int) - 1) = (n0 : Int) := by rw [IntWalk.i64_in _ (by omega)]; omega
  obtain ⟨g0, hg0⟩ : ∃ g0, gl = g0 + 1 := ⟨gl - 1, by omega⟩
  have hwg : IntKind.i64.wrap ((gl : Int) - 1) = (g0 : Int) := by rw [IntWalk.i64_in _ (by omega)]; omega
  have HN0 := Lib.hid hn0
  have HG0 := Lib.hid hg0
  clear hn0 hg0
  go_enter Tryz.func30, Tryz.ntmps30
  go_wp2_with (at_builtin; refine Lib.wpList_append_run _ rfl _ _ _ _ rfl _ _ rfl rfl _ _ HAP.out ?_)
  go_wp2_with fail
  go_loopw [6] (fun i wr => ∃ m q : Nat, q + 1 + m = n ∧ gl ≤ q + 2 ∧ i = .int .i64 q ∧ wr.ownsRow w.heap.size 5 1 (.slice (some ⟨g, 0, none⟩) n cp) n (bys (mkRow n (remF d n F0 m))) ∧ Below w.heap.size w wr ∧ g < wr.heap.size)
    (fun i _ => (intOf i).toNat)
  case atStart => exact ⟨0, n0, by have := HN0.out; omega, by have := HN0.out; omega, rfl, HO1.out, hb1, hg2⟩
  case round =>
    obtain ⟨m, q, hrm, hgr, rfl, hown, hb, hgz⟩ := hrel
    clear hb1 hg2
    have hgg := HG0.out
    by_cases hlt : gl ≤ q + 1
    · obtain ⟨a, ha⟩ : ∃ a, a = q + 1 - gl := ⟨_, rfl⟩
      have hag : a + gl = q + 1 := by omega
      have hi1 : (g0 : Int) ≤ (q : Int) := by omega
      have hqn : q < n := by omega
      obtain ⟨z, hz⟩ : ∃ z : Int, z = (q : Int) - (gl : Int) := ⟨_, rfl⟩
      have hw2 : IntKind.i64.wrap ((q : Int) - (gl : Int)) = z := by rw [IntWalk.i64_in _ (by omega)]; omega
      have hw3 : IntKind.i64.wrap (z + 1) = (a : Int) := by rw [IntWalk.i64_in _ (by omega)]; omega
      have hcq := own_cell8 hown (HML.out _ _).symm (k := q) (by omega)
      rw [mkRow_getD _ _ _ (by omega)] at hcq
      have HREM : Hid (remF d n F0 (m + 1) = remI d a (remF d n F0 m q) (remF d n F0 m) gl) := by
        show remI d (n - m - d.length) (remF d n F0 m (n - 1 - m)) (remF d n F0 m) d.length = _
        rw [HG.out, show n - m - gl = a by omega, show n - 1 - m = q by omega]
      have HRZ : Hid (∀ f, bys (mkRow n (remI d a f (remF d n F0 m) 0)) = bys (mkRow n (remF d n F0 m))) := fun f => by
        congr 1; exact mkRow_congr fun p _ => remI_zero d a f _ p
      generalize hf : remF d n F0 m q = f at *
      have HQ : Hid (q + 1 + m = n) := by show _ = _; omega
      have HGG := Lib.hid hgg
      clear ha hf hz hgg
      have hzb : -1 ≤ z ∧ z ≤ 1000 := by
        have := hw2
        rw [IntWalk.i64_in _ (by omega)] at this; omega
      obtain ⟨hzb1, hzb2⟩ := hzb
      go_wp2_with fail
      generalize wr = wo at *
      go_loopw [29] (fun i wq => ∃ j : Nat, j ≤ gl ∧ i = .int .i64 j ∧ wq.ownsRow w.heap.size 5 1 (.slice (some ⟨g, 0, none⟩) n cp) n (bys (mkRow n (remI d a f (remF d n F0 m) j))) ∧ Below w.heap.size w wq ∧ g < wq.heap.size)
        (fun i _ => gl - (intOf i).toNat)
      case atStart => exact ⟨0, Nat.zero_le _, rfl, by rw [HRZ.out]; exact hown, hb, hgz⟩
      case round =>
        obtain ⟨j, hj, rfl, ho, hbq, hgq⟩ := hrel
        clear hown hb hgz hcq
        by_cases hlj : j < gl
        · have hji : (j : Int) < (gl : Int) := by omega
          have hjd : j < d.length := by rw [HG.out]; exact hlj
          have hdj := HX.out _ hbq j _ (bys_get d j hjd)
          rw [Addr.add_lit] at hdj
          rw [show d[j] = d.getD j 0 by simp [List.getD, hjd]] at hdj
          obtain ⟨p, hp⟩ : ∃ p, p = a + j := ⟨_, rfl⟩
          have hpn : p < n := by omega
          have hce := own_cell8 ho (HML.out _ _).symm (k := p) hpn
          rw [mkRow_getD _ _ _ hpn, hp, remI_at] at hce
          have hst := own_set8 ho (a + j) (remF d n F0 m (a + j) ^^^ gmul f (d.getD j 0))
          rw [rem_set] at hst
          have hfr := ho.frozenAt (a + j)
          have hwp : IntKind.i64.wrap ((a : Int) + (j : Int)) = (p : Int) := by rw [IntWalk.i64_in _ (by omega)]; omega
          rw [← hp] at hce hst hfr
          have hbs : Below w.heap.size w (wr.setCell ⟨g, p, none⟩ (.int .u8 ((remF d n F0 m p ^^^ gmul f (d.getD j 0)).toNat : Int))) := hbq.setCell hg1 _
          have HC := Lib.hid (stillA (l1Times_u8 f (d.getD j 0) wr.drew))
          have hxor := xor_u8 (remF d n F0 m p) (gmul f (d.getD j 0))
          have hps : (p : Int) < (n : Int) := by omega
          generalize remF d n F0 m p = y at *
          generalize d.getD j 0 = x at *
          have HST := Lib.hid hst
          have HBS := Lib.hid hbs
          clear hst hbs ho hp
          go_wp2_with fail
          refine wp_region_still_tail 15 (by kernel_rfl) (by kernel_rfl) ?_
          simp only [List.take_succ_cons, List.take_zero, List.drop_succ_cons, List.drop_zero]
          repeat (first | still_step | still_call (HC.out))
          refine wpStill_nil ?_
          go_wp2_with fail
          go_roundw
          case rel => exact ⟨j + 1, by omega, by go_num, HST.out, below_drewN HBS.out _, by simpa using hgq⟩
          case measure => simp [intOf]; omega
        · obtain rfl : j = gl := by omega
          have hji : ¬ (j : Int) < (j : Int) := by omega
          have HQ1 : Hid (∃ q1, q = q1 + 1) := ⟨q - 1, by have := HGG.out; omega⟩
          obtain ⟨q1, hq1⟩ := HQ1.out
          have hwq : IntKind.i64.wrap ((q : Int) - 1) = (q1 : Int) := by rw [IntWalk.i64_in _ (by omega)]; omega
          have HQ2 := Lib.hid hq1
          clear hq1 HQ1
          go_wp2_with fail
          go_roundw
          case rel => exact ⟨m + 1, q1, by have := HQ.out; have := HQ2.out; omega, by have := HQ2.out; omega, by go_num, by rw [HREM.out]; exact ho, hbq, hgq⟩
          case measure => have := HQ2.out; simp [intOf]; omega
    · have hi1 : ¬ (g0 : Int) ≤ (q : Int) := by omega
      have hsh := own_short hown (k := g0) (by omega)
      rw [bys_takeF _ _ _ (by omega)] at hsh
      have HSH := Lib.hid hsh
      have hgn : g0 ≤ n := by omega
      have HM : Hid (n + 1 - gl = m ∧ gl - 1 = g0) := by show _ ∧ _; omega
      clear hown hsh hgg
      go_wp2_with fail
      go_ret
      refine ⟨_, rfl, OwnBytes.of_made ?_, TurnIn.of_below hb⟩
      rw [HLL.out, HML.out, HM.out.1, HM.out.2]
      exact HSH.out

set_option maxRecDepth 100000 in
set_option maxHeartbeats 4000000 in
theorem sEncodeWord_own (v : Value) (l : List UInt8) (t : Int) (w : World) (hv : Seen w v (bys l)) (hl20 : l.length ≤ 1048576) : Calls Tryz.prog 7 #[v, .int .i64 t] w (RetBytesOk 5 w (encR8 l t) (encOk8 l t)) := by
  have HV := Lib.hid hv
  obtain ⟨A, c, rfl, hlc, hcm, hx⟩ := hv
  rw [bys_length] at hlc HV hx
  simp only [bys_length]
  unfold maxLen at hcm
  have HNO : Hid (encOk8 l t = false → encR8 l t = []) := fun h => if_neg (by rw [h]; simp)
  have HYES : Hid (encOk8 l t = true → encR8 l t = encL8 l (2 * t.toNat)) := fun h => if_pos h
  by_cases he : errT t = true
  · obtain ⟨m, rfl, h1, h4⟩ := errT_b he
    have HE := Lib.hid he
    have HF : Hid (encOk8 l (m : Int) = sizB m (2 * m + l.length)) := encOk8_b h1 h4
    have HGN := Lib.hid (fun W : World => l8Generator_own m W h1 h4)
    obtain ⟨k, hk⟩ : ∃ k, k = 2 * m := ⟨_, rfl⟩
    rw [← hk] at HGN HF
    have hm2 : 2 * (m : Int) = (k : Int) := by omega
    have hk2 : 2 ≤ k := by omega
    have hk8 : k ≤ 8 := by omega
    have HYE : Hid (encOk8 l (m : Int) = true → encR8 l (m : Int) = leftL (zerosN k ++ l) (genL k) ++ l) := fun h => by
      rw [HYES.out h, encL8, Int.toNat_natCast, ← hk]
    have HSZ : Hid (∀ s, sizB m s = decide (k < s ∧ s ≤ 24)) := fun s => by rw [hk]; rfl
    have HGL : Hid ((genL k).length = k + 1) := genL_length k
    have HZL : Hid (bys (zerosN k) = List.replicate k (.int .u8 0) ∧ (zerosN k).length = k) := by
      show _ ∧ _
      exact ⟨by simp [zerosN, bys, List.map_replicate], by simp [zerosN]⟩
    clear he hk HYES h1 h4
    generalize hnn : l.length = n at *
    have HN := Lib.hid hnn
    clear hnn
    by_cases hn0 : n = 0
    · have hz : ((n : Int) == 0) = true := by simp [hn0]
      have HO : Hid (encOk8 l (m : Int) = false) := by show _ = _; rw [HF.out, HSZ.out]; simp [hn0]
      clear hn0
      go_enter Tryz.func7, Tryz.ntmps7
      go_wp2_with fail
      refine (l8T_any _ _).mono ?_
      rintro e w' ⟨rfl, rfl⟩
      rw [HE.out]
      go_wp2_with fail
      go_ret2
      exact ⟨.slice none 0 0, by rw [HO.out]; rfl, by rw [HNO.out HO.out]; exact OwnBytes.nil _ _ _, TurnIn.refl _⟩
    · have hz : ((n : Int) == 0) = false := by simp; omega
      obtain ⟨b, off, rfl, hbl, hcell⟩ := hx (by omega)
      have HX := Lib.hid hcell
      clear hx hcell
      obtain ⟨s, hs⟩ : ∃ s, s = k + n := ⟨_, rfl⟩
      by_cases hbig : s ≤ 24
      · have HO : Hid (encOk8 l (m : Int) = true) := by show _ = _; rw [HF.out, HSZ.out]; simp; omega
        have hwa : IntKind.i64.wrap ((n : Int) + (k : Int)) = (s : Int) := by rw [IntWalk.i64_in _ (by omega)]; omega
        have hd24 : decide ((24 : Int) < (s : Int)) = false := by simp; omega
        have hd24i : ¬ (24 : Int) < (s : Int) := by omega
        obtain ⟨i0, hi0, hz0, hz1, hz2⟩ := info_parts infoByte
        have HS := Lib.hid hs
        have hs24 : s ≤ 24 := hbig
        have hns : n + k = s := by omega
        clear hs hbig
        go_enter Tryz.func7, Tryz.ntmps7
        go_wp2_with fail
        refine (l8T_any _ _).mono ?_
        rintro e w' ⟨rfl, rfl⟩
        rw [HE.out]
        go_wp2_with (at_make; refine wpList_make_full _ rfl _ _ _ rfl w.heap.size _ i0 _ 1 Tryz.underlying22 hi0 hz0 hz1 _ _ _ _ k rfl rfl rfl rfl ?b2 ?b3 ?b4 ?_)
        case b2 => rw [hz2]; omega
        case b3 => unfold maxLen; omega
        case b4 => exact Nat.le_refl _
        intro w1 hown1 hg1
        have hb1 : Below w.heap.size w w1 := below_of_grown hg1 (Nat.le_refl _) (by simp)
        have z1 := hb1.size
        rw [toList_madeCells_one, ← HZL.out.1] at hown1
        have HO1 := Lib.hid hown1
        have hys : ∀ j y, (bys l)[j]? = some y → w1.cell? ((⟨b, off, none⟩ : Addr).add j) = some y := fun j y hj => by rw [Addr.add_lit]; exact (hb1.cell (p := ⟨b, off + j, none⟩) hbl).trans (HX.out j y hj)
        have HYS := Lib.hid hys
        have HNL : Hid ((bys l).length = n) := by show _ = _; rw [bys_length]; exact HN.out
        clear hg1 hown1 hys
        go_wp2_with (at_builtin; refine wpList_appendN rfl _ _ _ rfl w.heap.size 5 _ _ Tryz.underlying22 infoByte rfl _ k (bys (zerosN k)) rfl HO1.out ⟨b, off, none⟩ n c (bys l) rfl HNL.out HYS.out (fun y hy => bys_one y _ hy) ?c1 ?c2 ?c3 ?_)
        case c1 => omega
        case c2 => omega
        case c3 => exact z1
        intro v2 w2 ho2 hg2 hv2
        have hb2 : Below w.heap.size w w2 := hb1.grown hg2 z1 (fun g e => (HO1.out.lt g e).1)
        have z2 := hb2.size
        have hks : k + n = s := by omega
        have hso2 : Seen w2 v2 (bys (zerosN k ++ l)) := by rw [bys_append]; exact Seen.of_own ho2
        have HS2 := Lib.hid hso2
        clear ho2 hg2 hv2 hso2
        go_wp2_with fail
        refine (HGN.out _).mono ?_
        rintro e w3 ⟨v3, rfl, o3, k3⟩
        have z3 := k3.size
        have hb3 := k3.base hb2 z2 (by omega)
        have HLF := Lib.hid (l8Left_own v2 v3 (zerosN k ++ l) (genL k) w3 (HS2.out.touch k3) o3.seen (by rw [HGL.out]; omega) (by rw [HGL.out, List.length_append, HZL.out.2, HN.out]; omega) (by rw [List.length_append, HZL.out.2, HN.out]; omega))
        clear o3 k3
        go_wp2_with fail
        refine HLF.out.mono ?_
        rintro e w4 ⟨v4, rfl, o4, k4⟩
        have z4 := k4.size
        have hb4 := k4.base hb3 (by omega) (by omega)
        have o4' : w4.ownsRow w.heap.size 5 1 v4 k (bys (leftL (zerosN k ++ l) (genL k))) := by
          have h := own_base (base' := w.heap.size) o4.1 (by omega)
          rw [leftL_length, HGL.out, Nat.add_sub_cancel] at h
          exact h
        have HO4 := Lib.hid o4'
        have hys4 : ∀ j y, (bys l)[j]? = some y → w4.cell? ((⟨b, off, none⟩ : Addr).add j) = some y := fun j y hj => by rw [Addr.add_lit]; exact (hb4.cell (p := ⟨b, off + j, none⟩) hbl).trans (HX.out j y hj)
        have HYS4 := Lib.hid hys4
        have HLE : Hid ((leftL (zerosN k ++ l) (genL k) ++ l).length = k + n) := by show _ = _; rw [List.length_append, leftL_length, HGL.out, HN.out]; omega
        clear o4 k4 o4' hys4
        go_wp2_with (at_builtin; refine wpList_appendN rfl _ _ _ rfl w.heap.size 5 _ _ Tryz.underlying22 infoByte rfl _ k (bys (leftL (zerosN k ++ l) (genL k))) rfl HO4.out ⟨b, off, none⟩ n c (bys l) rfl HNL.out HYS4.out (fun y hy => bys_one y _ hy) ?c4 ?c5 ?c6 ?_)
        case c4 => omega
        case c5 => omega
        case c6 => omega
        intro v5 w5 ho5 hg5 hv5
        have hb5 : Below w.heap.size w w5 := hb4.grown hg5 (by omega) (fun g e => (HO4.out.lt g e).1)
        rw [← bys_append] at ho5
        have HO5 := Lib.hid ho5
        clear ho5 hg5 hv5
        go_wp2_with fail
        go_ret2
        refine ⟨v5, by rw [HO.out]; rfl, ?_, TurnIn.of_below hb5⟩
        rw [HYE.out HO.out]
        refine OwnBytes.of_made ?_
        rw [HLE.out, show k + n = s by omega]; exact HO5.out
      · have HO : Hid (encOk8 l (m : Int) = false) := by show _ = _; rw [HF.out, HSZ.out]; simp; omega
        have hwa : IntKind.i64.wrap ((n : Int) + (k : Int)) = (s : Int) := by rw [IntWalk.i64_in _ (by omega)]; omega
        have hd24 : decide ((24 : Int) < (s : Int)) = true := by simp; omega
        have hd24i : (24 : Int) < (s : Int) := by omega
        clear hs
        go_enter Tryz.func7, Tryz.ntmps7
        go_wp2_with fail
        refine (l8T_any _ _).mono ?_
        rintro e w' ⟨rfl, rfl⟩
        rw [HE.out]
        go_wp2_with fail
        go_ret2
        exact ⟨.slice none 0 0, by rw [HO.out]; rfl, by rw [HNO.out HO.out]; exact OwnBytes.nil _ _ _, TurnIn.refl _⟩
  · have HE : Hid (errT t = false) := by show _ = _; simpa using he
    have HO : Hid (encOk8 l t = false) := encOk8_no HE.out
    clear he
    generalize hnn : l.length = n at *
    go_enter Tryz.func7, Tryz.ntmps7
    go_wp2_with fail
    refine (l8T_any _ _).mono ?_
    rintro e w' ⟨rfl, rfl⟩
    rw [HE.out]
    go_wp2_with fail
    go_ret2
    exact ⟨.slice none 0 0, by rw [HO.out]; rfl, by rw [HNO.out HO.out]; exact OwnBytes.nil _ _ _, TurnIn.refl _⟩

end Go.Proofs.YtblfobbeojdihaaGreatDoor
