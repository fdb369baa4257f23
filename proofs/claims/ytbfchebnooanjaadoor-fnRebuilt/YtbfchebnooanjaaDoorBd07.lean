/- Joined texts: SpecOwn, CodeM, SymRows, VecPair, VecScale, NodeRow, NodeRow2. -/
import Derived.Test.YtbfchebnooanjaaDoorBd06
import Derived.Deep.DeepMust
import Derived.Deep.RegionHeldLaw
import Derived.Test.YtbfchebnooanjaaDoorBd05
import Derived.Test.YtbfchebnooanjaaDoorBd02
import Derived.Deep.RegionHeld3
import Derived.BigRegion
import Derived.Test.YtbfchebnooanjaaDoorBd04
import Derived.Test.YtbfchebnooanjaaDoorBd01
import Derived.Deep.QuietTactic
import Derived.BigQuiet
set_option linter.unusedSimpArgs false
set_option linter.unusedVariables false
/- The model's l2Own. -/
namespace G294
open Go Go.RowKit
/-- append(s, x...) of a row of one-cell elements, onto a row of the call's own, as one step of a region that draws its order -/
theorem step_appendN {P : Program} {w : World} {ops : Array Oper} {o : Oper} {a : Act} {K : Act → World → Prop} {Q : Exit → Act → World → Prop} {E : Prop} (hgd : o.guard = none) (s x : Operand) (t : TypeId)
    (ho : o.op = .call { callee := .builtin .append, args := #[s, x], argTypes := #[t, t] })
    (base : Nat) (e : TypeId) (z : Value) (bytes : Nat) (ht : P.underlying t = some (.slice e)) (hinfo : (P.info? e).map (fun i => (i.zero, i.size, i.bytes)) = some (some z, 1, bytes)) (hzs : z.cells.size = 1)
    (v : Value) (n : Nat) (xs : List Value) (hs : a.eval s = v) (hown : w.ownsRow base e 1 v n xs)
    (A : Addr) (m c : Nat) (ys : List Value) (hx : a.eval x = .slice (some A) m c) (hl : ys.length = m) (hc : ∀ j y, ys[j]? = some y → w.cell? (A.add j) = some y) (h1 : ∀ y, y ∈ ys → y.oneCell' = true)
    (hn : n + m ≤ 1000000000) (hby : bytes ≤ 1000) (hbase : base ≤ w.heap.size)
    (h : ∀ v' w', w'.ownsRow base e 1 v' (n + m) (xs ++ ys) → w.grownBy w' v.ownBlock → (v'.ownBlock = v.ownBlock ∨ v'.ownBlock = some w.heap.size) → K (a.put o.dst v') w') :
    if Region.wanted o (yielded ops a.tmps) = true then Oper.wp P o a w K Q else E := by
  have hw : Region.wanted o (yielded ops a.tmps) = true := by simp [Region.wanted, hgd]
  rw [if_pos hw]
  obtain ⟨i, hi, hz, hsz, hbs⟩ := info_parts hinfo
  obtain ⟨v', w', hrun, r1, r2, _, r4⟩ := run_append_own_at (P := P) w base t o.type e i z 1 bytes ht hi hz hsz hbs hzs (by omega) v n xs hown A m c ys (by omega) hc h1 (by unfold maxLen; omega) (by
    have : (n + m) * bytes ≤ 1000000000 * 1000 := Nat.mul_le_mul (by omega) hby
    omega) hbase
  unfold Oper.wp execOp
  simp only [ho, resolve, invoke, builtin, Sem.run_bind, Sem.run_pure, Result.andThen_ok, List.map_toArray, List.map_cons, List.map_nil, hs, hx, hrun]
  exact h v' w' r1 r2 r4
theorem bys_oneC (l : List UInt8) : ∀ y, y ∈ bys l → y.oneCell' = true := by
  intro y hy
  simp only [bys, List.mem_map] at hy
  obtain ⟨x, _, rfl⟩ := hy
  rfl
theorem turn_trans' {w w1 w2 : World} (k : TurnIn 0 0 w w1) {row : Option Nat} (hg : w1.grownBy w2 row) (hr : ∀ g, row = some g → w.heap.size ≤ g) : TurnIn 0 0 w w2 :=
  TurnIn.of_below (k.to_below.grown hg k.size hr)
end G294
namespace Go.Proofs.YtbfchebnooanjaaDoor
open Go.RowKit G294

set_option maxRecDepth 100000 in
set_option maxHeartbeats 2000000 in
theorem l2Own_own (r c : Nat) (F : Ents) (v : Value) (w : World) (hs : SeenM w v (mkM r c F)) (hr : r ≤ 1000) (hc : c ≤ 1000) (hc1 : 1 ≤ c) : Calls Tryd.prog 66 #[.agg #[v]] w (RetMat 5 22 w (mkM r c F)) := by
  obtain ⟨A, cp, rfl, hlc, hcm⟩ := hs.len
  rw [mkM_length] at hlc hs ⊢
  unfold maxLen at hcm
  have hb0 : Below w.heap.size w (w.alloc (.cells #[.slice A r cp] 67)) := (Below.refl _ _).alloc (Nat.le_refl _) _
  have hb1 : Below w.heap.size w ((w.alloc (.cells #[.slice A r cp] 67)).alloc (.cells #[.slice none 0 0] 67)) := hb0.alloc (by simp) _
  have hb2 : Below w.heap.size w (((w.alloc (.cells #[.slice A r cp] 67)).alloc (.cells #[.slice none 0 0] 67)).alloc (.cells #[.slice none 0 0] 67)) := hb1.alloc (by simp; omega) _
  have hsz : (((w.alloc (.cells #[.slice A r cp] 67)).alloc (.cells #[.slice none 0 0] 67)).alloc (.cells #[.slice none 0 0] 67)).heap.size = w.heap.size + 3 := by simp
  have hM0 : OwnM 5 22 (((w.alloc (.cells #[.slice A r cp] 67)).alloc (.cells #[.slice none 0 0] 67)).alloc (.cells #[.slice none 0 0] 67)) (w.heap.size + 3) (w.heap.size + 3) (.slice none 0 0) (mkM 0 c F) [] := hsz ▸ OwnM.nil _ _ _ _
  have q2 : (((w.alloc (.cells #[.slice A r cp] 67)).alloc (.cells #[.slice none 0 0] 67)).alloc (.cells #[.slice none 0 0] 67)).cell? ⟨w.heap.size + 2, 0, none⟩ = some (.slice none 0 0) := alloc_last_cell _ _ _ _ _
  have q2f : (((w.alloc (.cells #[.slice A r cp] 67)).alloc (.cells #[.slice none 0 0] 67)).alloc (.cells #[.slice none 0 0] 67)).frozen? ⟨w.heap.size + 2, 0, none⟩ = false := alloc_last_frozen _ _ _ _ _
  have q1 : (((w.alloc (.cells #[.slice A r cp] 67)).alloc (.cells #[.slice none 0 0] 67)).alloc (.cells #[.slice none 0 0] 67)).cell? ⟨w.heap.size + 1, 0, none⟩ = some (.slice none 0 0) := alloc_mid_cell _ _ _ _ _
  have q1f : (((w.alloc (.cells #[.slice A r cp] 67)).alloc (.cells #[.slice none 0 0] 67)).alloc (.cells #[.slice none 0 0] 67)).frozen? ⟨w.heap.size + 1, 0, none⟩ = false := alloc_mid_frozen _ _ _ _ _
  have HSZ := Lib.hid hsz
  have HS := Lib.hid hs
  clear hsz hs
  go_enter Tryd.func66, Tryd.ntmps66
  go_wp2_with fail
  go_loopw [10] (fun i wr => ∃ (k : Nat) (o : Value) (vs : List Value), k ≤ r ∧ i = .int .i64 k ∧ OwnM 5 22 wr (w.heap.size + 3) wr.heap.size o (mkM k c F) vs ∧
      wr.cell? ⟨w.heap.size + 2, 0, none⟩ = some o ∧ wr.frozen? ⟨w.heap.size + 2, 0, none⟩ = false ∧ wr.cell? ⟨w.heap.size + 1, 0, none⟩ = some (.slice none 0 0) ∧ wr.frozen? ⟨w.heap.size + 1, 0, none⟩ = false ∧ Below w.heap.size w wr ∧ w.heap.size + 3 ≤ wr.heap.size)
    (fun i _ => r - (intOf i).toNat)
  case atStart => exact ⟨0, .slice none 0 0, [], Nat.zero_le _, rfl, hM0.wider (Nat.le_refl _) (by rw [HSZ.out]; exact Nat.le_refl _) (Nat.le_refl _), q2, q2f, q1, q1f, hb2, by rw [HSZ.out]; exact Nat.le_refl _⟩
  case round =>
    obtain ⟨k, o, vs, hk, rfl, hM, hc2, hf2, hcr, hfr, hb, hsz⟩ := hrel
    clear hM0 hb2 hb1 hb0 q2 q2f q1 q1f
    by_cases hlt : k < r
    · have hki : (k : Int) < (r : Int) := by omega
      have hrow : wr.ownsRow (w.heap.size + 3) 22 1 o k vs := by simpa using hM.row
      obtain ⟨B, n, co, rfl⟩ := hM.isSlice
      have hsw := HS.out.below hb
      obtain ⟨bb, off, c9, A0, c0, hvv, _, hbb, hcx, hc9, hsr⟩ := hsw.rowF k hlt
      simp only [Value.slice.injEq] at hvv
      obtain ⟨rfl, z9, rfl⟩ := hvv
      obtain ⟨A1, c1, hA1, hcc1, hcc2, hx1⟩ := hsr
      simp only [bys_length, mkRow_length] at hA1 hcc1 hx1
      obtain ⟨b0, off0, hA2, hb0, hx⟩ := hx1 (by omega)
      simp only [Value.slice.injEq] at hA1
      obtain ⟨rfl, _, rfl⟩ := hA1
      subst hA2
      have HX := Lib.hid hx
      clear hx hx1 z9
      have kA : TurnIn 0 0 wr (wr.alloc (.cells #[] 5)).drew := TurnIn.of_below ((Below.refl _ _).alloc (Nat.le_refl _) _).drew
      have hob : ∀ g, (Value.slice B n co).ownBlock = some g → w.heap.size + 3 ≤ g := fun g e => (hrow.lt g e).1
      have hne2 : (Value.slice B n co).ownBlock ≠ some (w.heap.size + 2) := fun e => by have := hob _ e; omega
      have hne1 : (Value.slice B n co).ownBlock ≠ some (w.heap.size + 1) := fun e => by have := hob _ e; omega
      have hown0 : (wr.alloc (.cells #[] 5)).drew.ownsRow wr.heap.size 5 1 (.slice (some ⟨wr.heap.size, 0, none⟩) 0 0) 0 [] := (World.ownsRow_lit wr #[] 0 (Nat.le_refl _) (by unfold maxLen; omega) rfl).drew
      have hcA : (wr.alloc (.cells #[] 5)).cell? ⟨w.heap.size + 2, 0, none⟩ = some (.slice B n co) := cell_turn kA hc2 (by omega)
      have hys : ∀ j y, (bys (mkRow c (F k)))[j]? = some y → (wr.alloc (.cells #[] 5)).drew.cell? ((⟨b0, off0, none⟩ : Addr).add j) = some y := fun j y hj => by rw [Addr.add_lit]; exact cell_turn kA (HX.out j y hj) hb0
      have hyl : (bys (mkRow c (F k))).length = c := by simp
      have HYS := Lib.hid hys
      clear hys
      have HR := Lib.hid hrow
      have HM := Lib.hid hM
      clear hM hrow
      go_wp2_with fail
      go_region_law (first
        | (refine step_appendN (by rfl) _ _ _ (by rfl) wr.heap.size 5 _ _ Tryd.underlying22 infoByte rfl _ 0 [] (by rfl) hown0 ⟨b0, off0, none⟩ c c0 (bys (mkRow c (F k))) (by rfl) hyl HYS.out (bys_oneC _) (by omega) (by omega) (by simp) ?_; intro u1 w1 hown1 hg1 hv1; obtain ⟨C1, m1, d1, rfl⟩ := own_isSlice hown1; have k1 := turn_trans' kA hg1 (fun g e => by simp [Value.ownBlock] at e; omega); have hcB : w1.cell? ⟨w.heap.size + 2, 0, none⟩ = some (.slice B n co) := cell_turn k1 hc2 (by omega); have k2 : TurnIn 0 0 wr (w1.alloc (.cells #[.slice C1 m1 d1] 22)) := turn_trans k1 (turn_alloc _ _) (by omega); have hcC : (w1.alloc (.cells #[.slice C1 m1 d1] 22)).cell? ⟨w.heap.size + 2, 0, none⟩ = some (.slice B n co) := cell_turn k2 hc2 (by omega); have hs1 := k1.size)
        | (refine step_append1 (by rfl) _ _ _ (by rfl) (w.heap.size + 3) 22 _ _ Tryd.underlying65 infoRowB rfl _ k vs (by rfl) (owns_turn HR.out (fun g e => (HR.out.lt g e).2) k2 (by omega)) w1.heap.size (.slice C1 m1 d1) (by rfl) (by simp) (by rfl) (by omega) (by omega) (by simp; omega) ?_; intro v' w2 hown2 hg2 hv2; obtain ⟨A', n', cp', rfl⟩ := own_isSlice hown2; have hc2' := (cell_past k2 hg2 hne2 (by omega) 0).trans hc2; have hf2' := (frozen_past k2 hg2 hne2 (by omega) 0).trans hf2))
      all_goals
        have hR : OwnBytes 5 (w1.alloc (.cells #[.slice C1 m1 d1] 22)) wr.heap.size (w1.heap.size + 1) (.slice C1 m1 d1) (mkRow c (F k)) := by
          refine ⟨?_, by simp, fun g e => by have := (hown1.lt g e).2; omega⟩
          have e : w1.ownsRow wr.heap.size 5 1 (.slice C1 m1 d1) c (bys (mkRow c (F k))) := by simpa using hown1
          rw [mkRow_length]
          exact e.alloc _
        have hM5 := (((HM.out.push k2 hR (Nat.le_refl _) (by omega) (by simpa using hown2) hg2 hv2).keep (turn_setCell w2 (w.heap.size + 2) 0 (.slice A' n' cp')) (by omega)).congr (mkM_succ k c F).symm)
        have hw1 : wr.heap.size ≤ w2.heap.size := by have := hg2.size; have := k2.size; omega
        have hb5 : Below w.heap.size w (w2.setCell ⟨w.heap.size + 2, 0, none⟩ (.slice A' n' cp')) := Below.setCell (TurnIn.base (TurnIn.of_grown (lo := w.heap.size) (hi := w2.heap.size) hg2 (fun g e => ⟨by have := hob g e; omega, by have := (HM.out.out g e); omega⟩)) (k2.base hb (by omega) (by omega)) (by have := k2.size; omega) (by omega)) (Nat.le_add_right _ 2) _
        have hq0 := ((cell_past k2 hg2 hne1 (by omega) 0).trans hcr)
        have hq0f := ((frozen_past k2 hg2 hne1 (by omega) 0).trans hfr)
        clear hR hown1 hown2 hg1 hg2 hv1 hv2 hob hcA hcB hcC hb hcr hfr hcx k1 k2 kA hown0
        go_wp2_with fail
        go_roundw
        case rel => exact ⟨k + 1, .slice A' n' cp', vs ++ [.slice C1 m1 d1], by omega, by go_num, by simpa using hM5, World.cell?_setCell_same _ _ _ hc2', by simp [hf2'], (cell_set_other w2 _ _ _ (by omega)).trans hq0, (frozen_set_other w2 _ _ _ (by omega)).trans hq0f, hb5, by simp; omega⟩
        case measure => simp [intOf]; omega
    · obtain rfl : k = r := by omega
      have hki : ¬ (k : Int) < (k : Int) := by omega
      obtain ⟨B, n, co, rfl⟩ := hM.isSlice
      go_wp2_with fail
      refine bodyPost_ret (v := .agg #[.slice B n co]) (by simp [results, Tryd.results66, go_sem, hcr]) rfl ?_
      have kk := turn_setCell wr (w.heap.size + 1) 0 (.slice B n co)
      have hle : w.heap.size ≤ w.heap.size + 1 := Nat.le_succ _
      refine ⟨_, vs, rfl, (hM.keep kk (by omega)).wider (by omega) (by simp) (by simp), TurnIn.of_below (hb.setCell hle _)⟩
end Go.Proofs.YtbfchebnooanjaaDoor

/- CodeMatrix: the program's and the model's. -/
namespace G294
open Go Go.RowKit
/-- append(s, x...) of a row of one-cell elements, onto a row of the call's own -/
theorem wpList_appendN {P : Program} {w : World} {ops : Array Oper} {rest : List Oper} {o : Oper} {a : Act} {Q : Exit → Act → World → Prop} (hgd : o.guard = none) (s x : Operand) (t : TypeId)
    (ho : o.op = .call { callee := .builtin .append, args := #[s, x], argTypes := #[t, t] })
    (base : Nat) (e : TypeId) (z : Value) (bytes : Nat) (ht : P.underlying t = some (.slice e)) (hinfo : (P.info? e).map (fun i => (i.zero, i.size, i.bytes)) = some (some z, 1, bytes)) (hzs : z.cells.size = 1)
    (v : Value) (n : Nat) (xs : List Value) (hs : a.eval s = v) (hown : w.ownsRow base e 1 v n xs)
    (A : Addr) (m c : Nat) (ys : List Value) (hx : a.eval x = .slice (some A) m c) (hl : ys.length = m) (hc : ∀ j y, ys[j]? = some y → w.cell? (A.add j) = some y) (h1 : ∀ y, y ∈ ys → y.oneCell' = true)
    (hn : n + m ≤ 1000000000) (hby : bytes ≤ 1000) (hbase : base ≤ w.heap.size)
    (h : ∀ v' w', w'.ownsRow base e 1 v' (n + m) (xs ++ ys) → w.grownBy w' v.ownBlock → (v'.ownBlock = v.ownBlock ∨ v'.ownBlock = some w.heap.size) → wpList P ops Q rest (a.put o.dst v') w') :
    wpList P ops Q (o :: rest) a w := by
  obtain ⟨i, hi, hz, hsz, hbs⟩ := info_parts hinfo
  refine wpList_append_own_at w hgd s x t ho base e i z 1 bytes ht hi hz hsz hbs hzs (by omega) v n xs hs hown A m c ys hx (by omega) hc h1 (by unfold maxLen; omega) ?_ hbase (fun v' w' h2 h3 _ h5 => h v' w' h2 h3 h5)
  have : (n + m) * bytes ≤ 1000000000 * 1000 := Nat.mul_le_mul (by omega) hby
  omega
/-- the rows of two matrices of the call's own, one behind the other -/
theorem OwnM.join {E EE : TypeId} {w w1 : World} {lo hi a b : Nat} {v v' u : Value} {L M : Mat} {vs us : List Value} (h : OwnM E EE w lo hi v L vs) (hu : OwnM E EE w a b u M us) (h1 : hi ≤ a) (h2 : lo ≤ a)
    (ho : w1.ownsRow lo EE 1 v' (L.length + M.length) (vs ++ us)) (hg : w.grownBy w1 v.ownBlock) (hv : v'.ownBlock = v.ownBlock ∨ v'.ownBlock = some w.heap.size) : OwnM E EE w1 lo w1.heap.size v' (L ++ M) (vs ++ us) := by
  have hvl := h.vlen
  have hul := hu.vlen
  have hs := hg.size
  have hob : ∀ g, v.ownBlock = some g → g < hi := h.out
  have ht := h.top
  have key : ∀ (i : Nat) (x : Value), (vs ++ us)[i]? = some x → (i < L.length ∧ vs[i]? = some x) ∨ (L.length ≤ i ∧ us[i - L.length]? = some x) := by
    intro i x hi'
    rcases Nat.lt_or_ge i vs.length with hlt | hge
    · rw [List.getElem?_append_left hlt] at hi'; exact .inl ⟨by omega, hi'⟩
    · rw [List.getElem?_append_right hge, hvl] at hi'
      exact .inr ⟨by omega, hi'⟩
  have low : ∀ (i : Nat) (x : Value) (g : Nat), vs[i]? = some x → x.ownBlock = some g → g < hi := fun i x g e1 e2 => (h.rows i x e1).2.2 g e2
  have high : ∀ (i : Nat) (x : Value) (g : Nat), us[i]? = some x → x.ownBlock = some g → a ≤ g := fun i x g e1 e2 => ((hu.rows i x e1).1.lt g e2).1
  refine ⟨by simpa using ho, Nat.le_refl _, fun g e => (ho.lt g e).2, ?_, ?_⟩
  · intro i x hi'
    rcases key i x hi' with ⟨h3, h4⟩ | ⟨h3, h4⟩
    · have e : (L ++ M).getD i [] = L.getD i [] := by simp [List.getD, List.getElem?_append_left h3]
      rw [e]
      exact ((h.rows i x h4).other hg (fun g e1 e2 => (h.apart i x g h4 e1).1 e2)).wider (Nat.le_refl _) (by omega) (Nat.le_refl _)
    · have e : (L ++ M).getD i [] = M.getD (i - L.length) [] := by simp [List.getD, List.getElem?_append_right h3]
      rw [e]
      exact ((hu.rows _ x h4).other hg (fun g e1 e2 => by have := high _ x g h4 e1; have := hob g e2; omega)).wider h2 (by have := hu.top; omega) (Nat.le_refl _)
  · intro i x g hi' hgx
    have hlt : g < w.heap.size := by
      rcases key i x hi' with ⟨_, h4⟩ | ⟨_, h4⟩
      · exact ((h.rows i x h4).1.lt g hgx).2
      · exact ((hu.rows _ x h4).1.lt g hgx).2
    refine ⟨fun e => ?_, fun j y hj hgy => ?_⟩
    · rcases hv with e2 | e2
      · rw [e2] at e
        rcases key i x hi' with ⟨_, h4⟩ | ⟨_, h4⟩
        · exact (h.apart i x g h4 hgx).1 e
        · have := high _ x g h4 hgx; have := hob g e; omega
      · rw [e2] at e; simp at e; omega
    · rcases key i x hi' with ⟨h3, h4⟩ | ⟨h3, h4⟩ <;> rcases key j y hj with ⟨h5, h6⟩ | ⟨h5, h6⟩
      · exact (h.apart i x g h4 hgx).2 j y h6 hgy
      · have := low i x g h4 hgx; have := high _ y g h6 hgy; omega
      · have := low j y g h6 hgy; have := high _ x g h4 hgx; omega
      · have := (hu.apart _ x g h4 hgx).2 _ y h6 hgy; omega
/-- a store into a block that is none of its own -/
theorem OwnM.other {E EE : TypeId} {w w' : World} {lo hi B : Nat} {v : Value} {L : Mat} {vs : List Value} (h : OwnM E EE w lo hi v L vs) (hg : w.grownBy w' (some B)) (hv : v.ownBlock ≠ some B) (hr : ∀ u ∈ vs, u.ownBlock ≠ some B) : OwnM E EE w' lo hi v L vs :=
  ⟨own_other h.row hg (fun g e e2 => by cases e2; exact hv e), Nat.le_trans h.top hg.size, h.out, fun i u hu => (h.rows i u hu).other hg (fun g e e2 => by cases e2; exact hr u (List.mem_of_getElem? hu) e), h.apart⟩
theorem OwnM.rowBlock {E EE : TypeId} {w : World} {lo hi : Nat} {v : Value} {L : Mat} {vs : List Value} (h : OwnM E EE w lo hi v L vs) : ∀ u ∈ vs, ∀ g, u.ownBlock = some g → lo ≤ g ∧ g < hi := fun u hu g e => by
  obtain ⟨i, hi, rfl⟩ := List.getElem_of_mem hu
  have := h.rows i _ (List.getElem?_eq_getElem hi)
  exact ⟨(this.1.lt g e).1, this.2.2 g e⟩
theorem grown_set {w : World} (B o : Nat) (x : Value) : w.grownBy (w.setCell ⟨B, o, none⟩ x) (some B) := by
  have t := turn_setCell w B o x
  exact ⟨t.os, t.tape, t.output, t.size, fun k hk hne => t.block k hk (by have : k ≠ B := fun e => hne (by rw [e]); omega)⟩
theorem rows_oneC {E EE : TypeId} {w : World} {lo hi : Nat} {v : Value} {L : Mat} {vs : List Value} (h : OwnM E EE w lo hi v L vs) : ∀ y, y ∈ vs → y.oneCell' = true := fun y hy => by
  obtain ⟨i, hi, rfl⟩ := List.getElem_of_mem hy
  obtain ⟨A, n, c, e⟩ := own_isSlice (h.rows i _ (List.getElem?_eq_getElem hi)).1
  rw [e]; rfl
/-- the matrix of a code -/
def codF (k : Nat) : Ents := fun i j => if i < k then idF i j else cauF k (i - k) j
def codM (k m : Nat) : Mat := mkM (k + m) k (codF k)
theorem codM_eq (k m : Nat) : mkM k k idF ++ mkM m k (cauF k) = codM k m := by
  apply List.ext_getElem
  · simp [codM]
  · intro i h1 h2
    rcases Nat.lt_or_ge i k with h | h
    · rw [List.getElem_append_left (by simpa using h)]
      simp only [codM, mkM, List.getElem_map, List.getElem_range]
      exact mkRow_congr fun j _ => by simp [codF, h]
    · rw [List.getElem_append_right (by simpa using h)]
      simp only [codM, mkM, List.getElem_map, List.getElem_range, List.length_map, List.length_range]
      exact mkRow_congr fun j _ => by simp [codF, Nat.not_lt.2 h]
def codR (k m : Int) : Mat := if shapeOk k m then codM k.toNat m.toNat else []
theorem codR_yes {k m : Nat} (h : shapeOk k m = true) : codR k m = codM k m := by unfold codR; rw [if_pos h]; simp
theorem codR_no {k m : Int} (h : shapeOk k m = false) : codR k m = [] := by unfold codR; rw [if_neg (by rw [h]; simp)]
theorem codR_siz (k m : Int) : sizM (codR k m) ≤ 256 := by
  unfold codR; split
  · rename_i h
    have := shapeOk_b h
    exact sizM_side _ (by omega) (by omega)
  · simp [sizM]
end G294
namespace Go.Proofs.YtbfchebnooanjaaDoor
open Go.RowKit G294

set_option maxRecDepth 100000 in
set_option maxHeartbeats 2000000 in
theorem codeMatrix_own (k m : Int) (w : World) (ht : Tab w) (h0 : 0 < w.heap.size) :
    Calls Tryd.prog 56 #[.int .i64 k, .int .i64 m] w (RetMatOk 5 22 w (codR k m) (shapeOk k m)) := by
  have hb0 : Below w.heap.size w (w.alloc (.cells #[.slice none 0 0] 67)) := (Below.refl _ _).alloc (Nat.le_refl _) _
  have hz0 := World.size_alloc w (.cells #[.slice none 0 0] 67)
  by_cases h : shapeOk k m = true
  · have HO := Lib.hid h
    have hb := shapeOk_b h
    clear h
    obtain ⟨p, rfl⟩ := Int.eq_ofNat_of_zero_le (show 0 ≤ k by omega)
    obtain ⟨q, rfl⟩ := Int.eq_ofNat_of_zero_le (show 0 ≤ m by omega)
    have HR := Lib.hid (codR_yes HO.out)
    have HG1 : Hid (goodI p = true) := by show goodI p = true; simp [goodI]; omega
    have HS : Hid (sidesOk q p = true) := by show sidesOk q p = true; simp [sidesOk, goodI]; omega
    have HR1 : Hid (idR p = mkM p p idF) := by show idR p = _; unfold idR; rw [if_pos HG1.out]; simp
    have HR2 : Hid (cauR q p = mkM q p (cauF p)) := by show cauR q p = _; unfold cauR; rw [if_pos HS.out]; simp
    have c0 := alloc_cell w (.slice none 0 0) 67
    have l0 := alloc_lt w (.cells #[.slice none 0 0] 67)
    have f0 : (w.alloc (.cells #[.slice none 0 0] 67)).frozen? ⟨w.heap.size, 0, none⟩ = false := by simp
    go_enter Tryd.func56, Tryd.ntmps56
    go_wp2_with fail
    refine (goodShape_any _ _ _).mono ?_
    rintro e w' ⟨rfl, rfl⟩
    rw [HO.out]
    go_wp2_with fail
    refine (identity_own p _).mono ?_
    rintro e w1 ⟨v1, vs1, rfl, hM1, k1⟩
    rw [HR1.out] at hM1
    obtain ⟨g1, cp1, rfl, hg1, hg1', hcp1, hcp1'⟩ := hM1.sliceF (by omega)
    have hs1 := k1.size
    have hb1 := k1.base hb0 (by omega) (by omega)
    have a1 := turn_alloc w1 (.cells #[.slice (some ⟨g1, 0, none⟩) p cp1] 67)
    have z1 := World.size_alloc w1 (.cells #[.slice (some ⟨g1, 0, none⟩) p cp1] 67)
    replace hb1 := a1.base hb1 (by omega) (by omega)
    replace hM1 := hM1.keep a1 (by omega)
    have c1 := alloc_cell w1 (.slice (some ⟨g1, 0, none⟩) p cp1) 67
    have l1 := alloc_lt w1 (.cells #[.slice (some ⟨g1, 0, none⟩) p cp1] 67)
    replace c0 := cell_turn a1 (cell_turn k1 c0 l0) (by omega)
    replace f0 := frozen_turn a1 (frozen_turn k1 f0 l0) (by omega)
    go_wp2_with fail
    refine (cauchy_own q p _ (ht.below hb1 h0) (by omega)).mono ?_
    rintro e w2 ⟨v2, vs2, rfl, hM2, k2⟩
    rw [HR2.out] at hM2
    obtain ⟨g2, cp2, rfl, hg2, hg2', hcp2, hcp2'⟩ := hM2.sliceF (by omega)
    have hs2 := k2.size
    have hb2 := k2.base hb1 (by omega) (by omega)
    have a2 := turn_alloc w2 (.cells #[.slice (some ⟨g2, 0, none⟩) q cp2] 67)
    have z2 := World.size_alloc w2 (.cells #[.slice (some ⟨g2, 0, none⟩) q cp2] 67)
    replace hb2 := a2.base hb2 (by omega) (by omega)
    replace hM1 := (hM1.keep k2 (by omega)).keep a2 (by omega)
    replace hM2 := hM2.keep a2 (by omega)
    have c2 := alloc_cell w2 (.slice (some ⟨g2, 0, none⟩) q cp2) 67
    replace c1 := cell_turn a2 (cell_turn k2 c1 l1) (by omega)
    replace c0 := cell_turn a2 (cell_turn k2 c0 (by omega)) (by omega)
    replace f0 := frozen_turn a2 (frozen_turn k2 f0 (by omega)) (by omega)
    have hys : ∀ j y, vs2[j]? = some y → (w2.alloc (.cells #[.slice (some ⟨g2, 0, none⟩) q cp2] 67)).cell? ((⟨g2, 0, none⟩ : Addr).add j) = some y := fun j y hj => by
      rw [Addr.add_lit, Nat.zero_add]; exact hM2.cellAt hj
    have hyl : vs2.length = q := by have := hM2.vlen; simpa using this
    have hy1 : ∀ y, y ∈ vs2 → y.oneCell' = true := fun y hy => by
      obtain ⟨i, hi, rfl⟩ := List.getElem_of_mem hy
      obtain ⟨A, n, c, e⟩ := own_isSlice (hM2.rows i _ (List.getElem?_eq_getElem hi)).1
      rw [e]; rfl
    have hr1 : (w2.alloc (.cells #[.slice (some ⟨g2, 0, none⟩) q cp2] 67)).ownsRow (w.alloc (.cells #[.slice none 0 0] 67)).heap.size 22 1 (.slice (some ⟨g1, 0, none⟩) p cp1) p vs1 := by have := hM1.row; simpa using this
    have HYS := Lib.hid hys
    have HY1 := Lib.hid hy1
    have HM1 := Lib.hid hM1
    have HM2 := Lib.hid hM2
    have HR0 := Lib.hid hr1
    clear hys hy1 hM1 hM2 hr1
    go_wp2_with (at_builtin; refine wpList_appendN rfl _ _ _ rfl (w.alloc (.cells #[.slice none 0 0] 67)).heap.size 22 _ _ Tryd.underlying65 infoRowB rfl _ p vs1 rfl HR0.out ⟨g2, 0, none⟩ q cp2 vs2 rfl hyl HYS.out HY1.out ?c1 ?c2 ?c3 ?_)
    case c1 => omega
    case c2 => omega
    case c3 => omega
    intro v' w3 hown hg hv
    obtain ⟨A', n', cp', rfl⟩ := own_isSlice hown
    have hM3 := (HM1.out.join HM2.out (by omega) (by omega) (by simpa using hown) hg (by rw [z2]; exact hv)).congr (codM_eq p q)
    have k3 : TurnIn (w.heap.size + 1) w1.heap.size (w2.alloc (.cells #[.slice (some ⟨g2, 0, none⟩) q cp2] 67)) w3 := TurnIn.of_grown hg (fun g e => by simp [Value.ownBlock] at e; omega)
    have hs3 := k3.size
    have hb3 := k3.base hb2 (by omega) (by omega)
    have hq : w3.cell? ⟨w.heap.size, 0, none⟩ = some (.slice none 0 0) := box_keep c0 (by omega) k3 (by omega)
    have hqf : w3.frozen? ⟨w.heap.size, 0, none⟩ = false := by
      have e := k3.block w.heap.size (by omega) (by omega)
      unfold World.frozen? at f0 ⊢
      rw [e]; exact f0
    clear hown hg hv
    go_wp2_with fail
    refine bodyPost_ret (v := .tuple #[.agg #[.slice A' n' cp'], .bool true]) (by simp [results, Tryd.results56, go_sem, hq]) rfl ?_
    have kk := turn_setCell w3 w.heap.size 0 (.slice A' n' cp')
    refine ⟨.slice A' n' cp', vs1 ++ vs2, by rw [HO.out], ?_, TurnIn.of_below (hb3.setCell (Nat.le_refl _) _)⟩
    rw [HR.out]
    exact (hM3.keep kk (by omega)).wider (by omega) (by simp) (by simp)
  · have HO : Hid (shapeOk k m = false) := by show shapeOk k m = false; simpa using h
    have HR := Lib.hid (codR_no HO.out)
    clear h
    go_enter Tryd.func56, Tryd.ntmps56
    go_wp2_with fail
    refine (goodShape_any _ _ _).mono ?_
    rintro e w' ⟨rfl, rfl⟩
    rw [HO.out]
    go_wp2_with fail
    refine bodyPost_ret (v := .tuple #[.agg #[.slice none 0 0], .bool false]) (by simp [results, Tryd.results56, go_sem]) rfl ?_
    exact ⟨_, [], by rw [HO.out], by rw [HR.out]; exact OwnM.nil _ _ _ _, TurnIn.of_below hb0⟩

set_option maxRecDepth 100000 in
set_option maxHeartbeats 4000000 in
theorem l3Matrix_own (p q : Nat) (w : World) (h1 : 1 ≤ p) (h2 : p ≤ 8) (h3 : 1 ≤ q) (h4 : q ≤ 6) :
    Calls Tryd.prog 31 #[.int .i64 p, .int .i64 q] w (RetMat 5 22 w (codM p q)) := by
  have hb0 : Below w.heap.size w (w.alloc (.cells #[.slice none 0 0] 67)) := (Below.refl _ _).alloc (Nat.le_refl _) _
  have hz0 := World.size_alloc w (.cells #[.slice none 0 0] 67)
  have c0 := alloc_cell w (.slice none 0 0) 67
  have l0 := alloc_lt w (.cells #[.slice none 0 0] 67)
  have f0 : (w.alloc (.cells #[.slice none 0 0] 67)).frozen? ⟨w.heap.size, 0, none⟩ = false := by simp
  go_enter Tryd.func31, Tryd.ntmps31
  go_wp2_with fail
  refine (l2Identity_own p _ h1 (by omega)).mono ?_
  rintro e w1 ⟨v1, vs1, rfl, hM1, k1⟩
  obtain ⟨g1, cp1, rfl, hg1, hg1', hcp1, hcp1'⟩ := hM1.sliceF (by omega)
  have hs1 := k1.size
  have hb1 := k1.base hb0 (by omega) (by omega)
  have a1 := turn_alloc w1 (.cells #[.slice (some ⟨g1, 0, none⟩) p cp1] 67)
  have z1 := World.size_alloc w1 (.cells #[.slice (some ⟨g1, 0, none⟩) p cp1] 67)
  replace hb1 := a1.base hb1 (by omega) (by omega)
  replace hM1 := hM1.keep a1 (by omega)
  have c1 := alloc_cell w1 (.slice (some ⟨g1, 0, none⟩) p cp1) 67
  have l1 := alloc_lt w1 (.cells #[.slice (some ⟨g1, 0, none⟩) p cp1] 67)
  have f1 : (w1.alloc (.cells #[.slice (some ⟨g1, 0, none⟩) p cp1] 67)).frozen? ⟨w1.heap.size, 0, none⟩ = false := by simp
  replace c0 := cell_turn a1 (cell_turn k1 c0 l0) (by omega)
  replace f0 := frozen_turn a1 (frozen_turn k1 f0 l0) (by omega)
  obtain ⟨W1, hW1⟩ : ∃ W1, W1 = w1.alloc (.cells #[.slice (some ⟨g1, 0, none⟩) p cp1] 67) := ⟨_, rfl⟩
  have HM1 := Lib.hid hM1
  clear hM1
  have hne1 : (Value.slice (some ⟨g1, 0, none⟩) p cp1).ownBlock ≠ some w1.heap.size := by simp [Value.ownBlock]; omega
  have hne0 : (Value.slice (some ⟨g1, 0, none⟩) p cp1).ownBlock ≠ some w.heap.size := by simp [Value.ownBlock]; omega
  have hfd : ∀ (W : World) (x : Value), (Instr.field 67 (.agg #[x]) 0).run Tryd.prog W = .ok x W := fun W x => by simp [go_sem, Instr.field, asAgg, run_underlying Tryd.underlying67]
  go_wp2_with fail
  go_region_law (first
    | (go_simp; go_at_call 63; go_must (refine (l2Cauchy_own q p _ h3 h1 (by omega) (by omega)).mono ?_; rintro e w2 ⟨v2, vs2, rfl, hM2, k2⟩; obtain ⟨g2, cp2, rfl, hg2, hg2', hcp2, hcp2'⟩ := hM2.sliceF (by omega); replace k2 := undrew k2; have d1 := cell_turn k2 c1 l1; have hs2 := k2.size; have hM1' := HM1.out.keep k2 (by omega); have hr1 : w2.ownsRow (w.alloc (.cells #[.slice none 0 0] 67)).heap.size 22 1 (.slice (some ⟨g1, 0, none⟩) p cp1) p vs1 := (by have := hM1'.row; simpa using this); have hyl : vs2.length = q := (by have := hM2.vlen; simpa using this)))
    | (refine step_appendN (by rfl) _ _ _ (by rfl) (w.alloc (.cells #[.slice none 0 0] 67)).heap.size 22 _ _ Tryd.underlying65 infoRowB rfl _ p vs1 (by rfl) hr1 ⟨g2, 0, none⟩ q cp2 vs2 (by rfl) hyl (fun j y hj => by rw [Addr.add_lit, Nat.zero_add]; exact hM2.cellAt hj) (rows_oneC hM2) (by omega) (by omega) (by omega) ?_; intro v' w3 hown hg hv; obtain ⟨A', n', cp', rfl⟩ := own_isSlice hown; have e1 := (cell_past k2 hg hne1 l1 0).trans c1; have e1f := (frozen_past k2 hg hne1 l1 0).trans f1; have e0 := (cell_past k2 hg hne0 (by omega) 0).trans c0; have e0f := (frozen_past k2 hg hne0 (by omega) 0).trans f0))
  all_goals
    have hM3 := (hM1'.join hM2 (by have : (w1.alloc (.cells #[.slice (some ⟨g1, 0, none⟩) p cp1] 67)).drew.heap.size = w1.heap.size + 1 := z1; omega) (by have : (w1.alloc (.cells #[.slice (some ⟨g1, 0, none⟩) p cp1] 67)).drew.heap.size = w1.heap.size + 1 := z1; omega) (by simpa using hown) hg hv).congr (codM_eq p q)
    have k3 : TurnIn (w.heap.size + 1) w1.heap.size w2 w3 := TurnIn.of_grown hg (fun g e => by simp [Value.ownBlock] at e; omega)
    have hs3 := k3.size
    have hb3 := k3.base (k2.base hb1 (by omega) (by omega)) (by omega) (by omega)
    have kk1 := turn_setCell w3 w1.heap.size 0 (.slice A' n' cp')
    have kk0 := turn_setCell (w3.setCell ⟨w1.heap.size, 0, none⟩ (.slice A' n' cp')) w.heap.size 0 (.slice A' n' cp')
    have hb5 := (hb3.setCell (p := ⟨w1.heap.size, 0, none⟩) (by show w.heap.size ≤ w1.heap.size; omega) (.slice A' n' cp')).setCell (p := ⟨w.heap.size, 0, none⟩) (Nat.le_refl _) (.slice A' n' cp')
    have e3 : (w3.setCell ⟨w1.heap.size, 0, none⟩ (.slice A' n' cp')).cell? ⟨w1.heap.size, 0, none⟩ = some (.slice A' n' cp') := World.cell?_setCell_same _ _ _ e1
    have e4 : (w3.setCell ⟨w1.heap.size, 0, none⟩ (.slice A' n' cp')).cell? ⟨w.heap.size, 0, none⟩ = some (.slice none 0 0) := (cell_set_other w3 0 0 _ (by omega)).trans e0
    have e5 : (w3.setCell ⟨w1.heap.size, 0, none⟩ (.slice A' n' cp')).frozen? ⟨w.heap.size, 0, none⟩ = false := (frozen_set_other w3 0 0 _ (by omega)).trans e0f
    have hM4 := hM3.other (grown_set w1.heap.size 0 (.slice A' n' cp')) (by rcases hv with e | e <;> rw [e] <;> simp [Value.ownBlock] <;> omega) (fun u hu e => by
      rcases List.mem_append.1 hu with h | h
      · have := hM1'.rowBlock u h _ e; omega
      · have h5 := hM2.rowBlock u h _ e
        have h6 : (w1.alloc (.cells #[.slice (some ⟨g1, 0, none⟩) p cp1] 67)).drew.heap.size = w1.heap.size + 1 := z1
        omega)
    have HM3 := Lib.hid hM4
    clear hM4
    clear hM3 hM1' hM2 hown hg hv hr1 hyl e1 e1f e0 e0f d1 hfd
    go_wp2_with fail
    refine bodyPost_ret (v := .agg #[.slice A' n' cp']) (by simp [results, Tryd.results31, go_sem, e4]) rfl ?_
    refine ⟨.slice A' n' cp', vs1 ++ vs2, rfl, (HM3.out.keep kk0 (by omega)).wider (by omega) (by simp) (by simp), TurnIn.of_below hb5⟩

end Go.Proofs.YtbfchebnooanjaaDoor

/- symmetricRows and MessageOf, the program's. -/
namespace G294
open Go Go.RowKit
/-- a grid of the call's own, filled in place -/
structure Grid (E EE : TypeId) (w wr : World) (hi : Nat) (v : Value) (L : Mat) (vs : List Value) : Prop where
  own : OwnM E EE wr w.heap.size hi v L vs
  old : Below w.heap.size w wr
theorem Grid.congr {E EE : TypeId} {w wr : World} {hi : Nat} {v : Value} {L L' : Mat} {vs : List Value} (h : Grid E EE w wr hi v L vs) (e : L = L') : Grid E EE w wr hi v L' vs := e ▸ h
theorem Grid.drewN {E EE : TypeId} {w wr : World} {hi : Nat} {v : Value} {L : Mat} {vs : List Value} (h : Grid E EE w wr hi v L vs) (q : Nat) : Grid E EE w (wr.drewN q) hi v L vs := ⟨h.own.drewN q, below_drewN h.old q⟩
theorem Grid.storeF {E EE : TypeId} {w wr : World} {hi r c k j bb m cap' : Nat} {F : Ents} {x : UInt8} {v : Value} {vs : List Value} (h : Grid E EE w wr hi v (mkM r c F) vs) (hk : k < r) (hu : vs[k]? = some (.slice (some ⟨bb, 0, none⟩) m cap')) :
    Grid E EE w (wr.setCell ⟨bb, j, none⟩ (.int .u8 (x.toNat : Int))) hi v (mkM r c fun i jj => if i = k ∧ jj = j then x else F i jj) vs := by
  have ho := h.own.rows k _ hu
  have h1 := (ho.1.lt bb rfl).1
  exact ⟨h.own.storeF hk hu, h.old.setCell (show w.heap.size ≤ bb by omega) _⟩
def msgOk (n k : Int) (l : List UInt8) : Bool := msrOk n k && decide ((l.length : Int) = k * (k - 1))
def msgR (n k : Int) (l : List UInt8) : Mat := if msgOk n k l = true then msgM (k - 1).toNat l else []
theorem msgR_no {n k : Int} {l : List UInt8} (h : msgOk n k l = false) : msgR n k l = [] := if_neg (by rw [h]; simp)
theorem msgR_yes {n : Int} {a : Nat} {l : List UInt8} (h : msgOk n ((a : Int) + 1) l = true) : msgR n ((a : Int) + 1) l = msgM a l := by unfold msgR; rw [if_pos h]; congr 1; omega
theorem msgR_siz (n k : Int) (l : List UInt8) : sizM (msgR n k l) ≤ 256 := by
  unfold msgR; split
  · rename_i h
    simp only [msgOk, Bool.and_eq_true] at h
    have := msrOk_b h.1
    exact sizM_side _ (by omega) (by omega)
  · simp [sizM]
/-- a code that is valid: K is one more than alpha -/
theorem msr_alpha {n k : Int} (h : msrOk n k = true) : ∃ a : Nat, k = (a : Int) + 1 ∧ 1 ≤ a ∧ a ≤ 3 ∧ 2 * (a : Int) + 1 ≤ n ∧ n ≤ 14 ∧ msrA n k = (a : Int) ∧ msrD n k = ((2 * a : Nat) : Int) ∧ msrB n k = ((2 * off a a : Nat) : Int) ∧ k * (k - 1) = ((2 * off a a : Nat) : Int) := by
  have hb := msrOk_b h
  have h1 := msrA_yes h
  have h2 := msrD_yes h
  have h3 := msrB_yes h
  rcases msrOk_k h with rfl | rfl | rfl
  · exact ⟨1, rfl, by omega, by omega, by omega, by omega, h1, h2, h3, rfl⟩
  · exact ⟨2, rfl, by omega, by omega, by omega, by omega, h1, h2, h3, rfl⟩
  · exact ⟨3, rfl, by omega, by omega, by omega, by omega, h1, h2, h3, rfl⟩
theorem off_half {a : Nat} (h1 : 1 ≤ a) (h2 : a ≤ 3) : 1 ≤ off a a ∧ off a a ≤ 6 := by
  have : a = 1 ∨ a = 2 ∨ a = 3 := by omega
  rcases this with rfl | rfl | rfl <;> exact ⟨by decide, by decide⟩
theorem Seen.front {w : World} {b o n c h : Nat} {xs : List Value} (hv : Seen w (.slice (some ⟨b, o, none⟩) n c) xs) (hh : h ≤ xs.length) : Seen w (.slice (some ⟨b, o, none⟩) h c) (xs.take h) := by
  obtain ⟨A, c', e, h1, h2, h3⟩ := hv
  simp only [Value.slice.injEq] at e
  obtain ⟨rfl, rfl, rfl⟩ := e
  refine ⟨some ⟨b, o, none⟩, c, by simp [Nat.min_eq_left hh], by simp; omega, h2, fun hp => ?_⟩
  simp only [List.length_take] at hp
  obtain ⟨b', o', e, hb, hc⟩ := h3 (by omega)
  refine ⟨b', o', e, hb, fun i x hx => hc i x ?_⟩
  rw [List.getElem?_take] at hx
  split at hx
  · exact hx
  · cases hx
theorem Seen.back {w : World} {b o n c h : Nat} {xs : List Value} (hv : Seen w (.slice (some ⟨b, o, none⟩) n c) xs) (hh : h < xs.length) : Seen w (.slice (some ⟨b, o + h, none⟩) (n - h) (c - h)) (xs.drop h) := by
  obtain ⟨A, c', e, h1, h2, h3⟩ := hv
  simp only [Value.slice.injEq] at e
  obtain ⟨rfl, rfl, rfl⟩ := e
  obtain ⟨b', o', e, hb, hc⟩ := h3 (by omega)
  simp only [Option.some.injEq, Addr.mk.injEq, and_true] at e
  obtain ⟨rfl, rfl⟩ := e
  refine ⟨some ⟨b, o + h, none⟩, c - h, by simp, by simp; omega, by omega, fun hp => ⟨b, o + h, rfl, hb, fun i x hx => ?_⟩⟩
  rw [List.getElem?_drop] at hx
  have := hc _ x hx
  rwa [← Nat.add_assoc] at this
end G294
namespace Go.Proofs.YtbfchebnooanjaaDoor
open Go.RowKit G294

end Go.Proofs.YtbfchebnooanjaaDoor

/- goodVector and goodPair. -/
namespace Go.Proofs.YtbfchebnooanjaaDoor
open Go.RowKit G294

end Go.Proofs.YtbfchebnooanjaaDoor

/- Contracts of ScaleVector, the program's and the model's. -/
namespace Go.Proofs.YtbfchebnooanjaaDoor
open Go.RowKit G294

set_option maxHeartbeats 400000 in
theorem l1Scale_any (a : UInt8) (v : Value) (l : List UInt8) (w : World) (hv : Seen w v (bys l)) (hn : l.length ≤ 1048576) :
    Calls Tryd.prog 91 #[.int .u8 (a.toNat : Int), v] w (Made w 5 (bys (scaleL a l))) := by
  obtain ⟨A, c, rfl, hlc, hcm, hx⟩ := hv
  rw [bys_length] at hlc hx
  simp only [bys_length]
  unfold maxLen at hcm
  generalize hnn : l.length = n at *
  have HN := Lib.hid hnn
  clear hnn
  go_enter Tryd.func91, Tryd.ntmps91
  go_wp2_with fail
  go_loopw [5, 10] (fun o i wr => ∃ k : Nat, k ≤ n ∧ i = .int .i64 k ∧ wr.ownsRow w.heap.size 5 1 o k (bys ((scaleL a l).take k)) ∧ Below w.heap.size w wr)
    (fun _ i _ => n - (intOf i).toNat)
  case atStart => exact ⟨0, Nat.zero_le _, rfl, World.ownsRow_nil _ _ _ _, Below.refl _ _⟩
  case round =>
    obtain ⟨k, hk, rfl, hown, hb⟩ := hrel
    by_cases hlt : k < n
    · obtain ⟨b, off, rfl, hbl, hcell⟩ := hx (by omega)
      have hkl : k < l.length := by rw [HN.out]; exact hlt
      have hcx : wr.cell? ⟨b, off + k, none⟩ = some (.int .u8 ((l[k]).toNat : Int)) := (hb.cell (p := ⟨b, off + k, none⟩) hbl).trans (hcell k _ (bys_get l k hkl))
      clear hcell hx
      have hki : (k : Int) < (n : Int) := by omega
      go_wp2_with fail
      refine (l1Times_u8 a l[k] _).mono ?_
      rintro e w' ⟨rfl, rfl⟩
      go_wp2_with (at_builtin; refine wpList_append1 rfl _ _ _ rfl w.heap.size 5 _ _ Tryd.underlying22 infoByte rfl _ k _ rfl (hown.alloc _) wr.heap.size (.int .u8 ((gmul a l[k]).toNat : Int)) rfl ?c1 rfl ?c2 ?c3 ?c4 ?_)
      case c1 => simp
      case c2 => omega
      case c3 => omega
      case c4 => have := hb.size; simp; omega
      intro v' w' hown' hg' _
      have hb' : Below w.heap.size w w' := below_append (hb.alloc hb.size _) (hown.alloc _) hg' (Nat.le_refl _) (by have := hb.size; simp; omega)
      have hown2 : w'.ownsRow w.heap.size 5 1 v' (k + 1) (bys ((scaleL a l).take (k + 1))) := by
        have e : (scaleL a l).take (k + 1) = (scaleL a l).take k ++ [gmul a l[k]] := by
          rw [List.take_succ_eq_append_getElem (by simp [scaleL, hkl])]; simp [scaleL]
        rw [e, bys_append]; exact hown'
      clear hown' hg'
      go_wp2_with fail
      go_roundw
      case rel => exact ⟨k + 1, by omega, by go_num, hown2, hb'⟩
      case measure => simp [intOf]; omega
    · obtain rfl : k = n := by omega
      have hki : ¬ (k : Int) < (k : Int) := by omega
      go_wp2_with fail
      go_ret
      refine ⟨_, rfl, ?_, hb⟩
      rw [List.take_of_length_le (by simp [scaleL, HN.out])] at hown
      simpa [HN.out, scaleL] using hown

theorem scaleR_len (a : UInt8) (l : List UInt8) : (scaleR a l).length ≤ 80 := by
  unfold scaleR; split
  · simpa [scaleL]
  · simp

end Go.Proofs.YtbfchebnooanjaaDoor

/- The row of a node: nodeNumber, nodeFactor, hasNode, powerRow, MsrRow; the model's l5X, l5F, l5Short, l5Row, MsrRow. -/
namespace G294
open Go Go.RowKit
def nodeOk (n k i : Int) : Bool := msrOk n k && decide (0 ≤ i ∧ i < n)
theorem nodeOk_b {n k i : Int} (h : nodeOk n k i = true) : msrOk n k = true ∧ 0 ≤ i ∧ i < n := by simpa [nodeOk] using h
def rowR (n k i : Int) : List UInt8 := if nodeOk n k i = true then rowL (k - 1).toNat i.toNat else []
theorem rowR_no {n k i : Int} (h : nodeOk n k i = false) : rowR n k i = [] := if_neg (by rw [h]; simp)
theorem rowR_yes {n : Int} {a i : Nat} (h : nodeOk n ((a : Int) + 1) i = true) : rowR n ((a : Int) + 1) i = rowL a i := by unfold rowR; rw [if_pos h]; congr 1; omega
theorem rowR_len (n k i : Int) : (rowR n k i).length ≤ 6 := by
  unfold rowR; split
  · rename_i h
    have := msrOk_b (nodeOk_b h).1
    rw [rowL_length]; omega
  · simp
end G294
namespace Go.Proofs.YtbfchebnooanjaaDoor
open Go.RowKit G294

theorem l1Power_u8 (x : UInt8) (a : Nat) (ha : a ≤ 1000) (w : World) : Calls Tryd.prog 106 #[.int .u8 (x.toNat : Int), .int .i64 a] w fun e w' => e = .returned (.int .u8 ((powB x a).toNat : Int)) ∧ w = w' := by
  have h := l1Power_any x.toNat a x.toNat_lt (by omega) w
  rw [powB_toNat]; exact h

theorem powerOf_u8 (x : UInt8) (a : Nat) (ha : a ≤ 1000) (w : World) (ht : Tab w) : Calls Tryd.prog 119 #[.int .u8 (x.toNat : Int), .int .i64 a] w fun e w' => e = .returned (.int .u8 ((powB x a).toNat : Int)) ∧ w = w' := by
  have h := powerOf_any x.toNat a x.toNat_lt (by omega) w ht
  rw [powB_toNat]; exact h

end Go.Proofs.YtbfchebnooanjaaDoor

/- MsrRow, the program's and the model's. -/
namespace G294
open Go Go.RowKit
/-- a literal of two bytes -/
theorem seen_duo (w : World) (x y : UInt8) (T : TypeId) : Seen (w.alloc (.cells #[.int .u8 (x.toNat : Int), .int .u8 (y.toNat : Int)] T)) (.slice (some ⟨w.heap.size, 0, none⟩) 2 2) (bys [x, y]) := by
  refine ⟨_, _, rfl, by simp [bys], by unfold maxLen; omega, fun _ => ⟨w.heap.size, 0, rfl, by simp, fun i u hu => ?_⟩⟩
  match i, hu with
  | 0, hu => simp only [bys, List.map_cons, List.getElem?_cons_zero, Option.some.injEq] at hu; subst hu; exact alloc_duo0 _ _ _ _
  | 1, hu => simp only [bys, List.map_cons, List.getElem?_cons_succ, List.getElem?_cons_zero, Option.some.injEq] at hu; subst hu; exact alloc_duo1 _ _ _ _
  | i + 2, hu => simp [bys] at hu
theorem seen_one (w : World) (x : UInt8) (T : TypeId) : Seen (w.alloc (.cells #[.int .u8 (x.toNat : Int)] T)) (.slice (some ⟨w.heap.size, 0, none⟩) 1 1) (bys [x]) := by
  refine ⟨_, _, rfl, by simp [bys], by unfold maxLen; omega, fun _ => ⟨w.heap.size, 0, rfl, by simp, fun i u hu => ?_⟩⟩
  match i, hu with
  | 0, hu => simp only [bys, List.map_cons, List.getElem?_cons_zero, Option.some.injEq] at hu; subst hu; exact alloc_cell _ _ _
  | i + 1, hu => simp [bys] at hu
end G294
namespace Go.Proofs.YtbfchebnooanjaaDoor
open Go.RowKit G294

end Go.Proofs.YtbfchebnooanjaaDoor
