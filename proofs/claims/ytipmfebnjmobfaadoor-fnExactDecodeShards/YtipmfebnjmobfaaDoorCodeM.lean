/- CodeMatrix: the program's and the model's. -/
import Derived.Deep.DeepMust
import Derived.Deep.RegionHeldLaw
import Derived.Test.YtipmfebnjmobfaaDoorSpecFill
import Derived.Test.YtipmfebnjmobfaaDoorMatI
import Derived.Test.YtipmfebnjmobfaaDoorSpecOwn
import Derived.Test.YtipmfebnjmobfaaDoorShape
import Derived.Test.YtipmfebnjmobfaaDoorBoxes
set_option linter.unusedSimpArgs false
set_option linter.unusedVariables false
namespace G294
open Go Go.RowKit
/-- append(s, x...) of a row of one-cell elements, onto a row of the call's own -/
theorem wpList_appendN {P : Program} {w : World} {ops : Array Oper} {rest : List Oper} {o : Oper} {a : Act} {Q : Exit → Act → World → Prop} (hgd : o.guard = none) (s x : Operand) (t : TypeId)
    (ho : o.op = .call { callee := .builtin .append, args := #[s, x], argTypes := #[t, t] })
    (base : Nat) (e : TypeId) (z : Value) (bytes : Nat) (ht : P.underlying t = some (.slice e)) (hinfo : (P.info? e).map (fun i => (i.zero, i.size, i.bytes)) = some (some z, 1, bytes)) (hzs : z.cells.size = 1)
    (v : Value) (n : Nat) (xs : List Value) (hs : a.eval s = v) (hown : w.ownsRow base e 1 v n xs)
    (A : Addr) (m c : Nat) (ys : List Value) (hx : a.eval x = .slice (some A) m c) (hl : ys.length = m) (hc : ∀ j y, ys[j]? = some y → w.cell? (A.add j) = some y) (h1 : ∀ y, y ∈ ys → y.oneCell' = true)
    (hn : n + m ≤ 1000000000) (hby : bytes ≤ 1000) (hbase : base ≤ w.heap.size)
    (h : ∀ v' w', w'.ownsRow base e 1 v' (n + m) (xs ++ ys) → w.grownBy w' v.ownBlock → (v'.ownBlock = v.ownBlock ∨ v'.ownBlock = some w.heap.size) → wpList P ops Q rest (a.put o.dst v') w') :
    wpList P ops Q (o :: rest) a w := by
  obtain ⟨i, hi, hz, hsz, hbs⟩ := info_parts hinfo
  refine wpList_append_own_at w hgd s x t ho base e i z 1 bytes ht hi hz hsz hbs hzs (by omega) v n xs hs hown A m c ys hx (by omega) hc h1 (by unfold maxLen; omega) ?_ hbase (fun v' w' h2 h3 _ h5 => h v' w' h2 h3 h5)
  have : (n + m) * bytes ≤ 1000000000 * 1000 := Nat.mul_le_mul (by omega) hby
  omega
/-- the rows of two matrices of the call's own, one behind the other -/
theorem OwnM.join {E EE : TypeId} {w w1 : World} {lo hi a b : Nat} {v v' u : Value} {L M : Mat} {vs us : List Value} (h : OwnM E EE w lo hi v L vs) (hu : OwnM E EE w a b u M us) (h1 : hi ≤ a) (h2 : lo ≤ a)
    (ho : w1.ownsRow lo EE 1 v' (L.length + M.length) (vs ++ us)) (hg : w.grownBy w1 v.ownBlock) (hv : v'.ownBlock = v.ownBlock ∨ v'.ownBlock = some w.heap.size) : OwnM E EE w1 lo w1.heap.size v' (L ++ M) (vs ++ us) := by
  have hvl := h.vlen
  have hul := hu.vlen
  have hs := hg.size
  have hob : ∀ g, v.ownBlock = some g → g < hi := h.out
  have ht := h.top
  have key : ∀ (i : Nat) (x : Value), (vs ++ us)[i]? = some x → (i < L.length ∧ vs[i]? = some x) ∨ (L.length ≤ i ∧ us[i - L.length]? = some x) := by
    intro i x hi'
    rcases Nat.lt_or_ge i vs.length with hlt | hge
    · rw [List.getElem?_append_left hlt] at hi'; exact .inl ⟨by omega, hi'⟩
    · rw [List.getElem?_append_right hge, hvl] at hi'
      exact .inr ⟨by omega, hi'⟩
  have low : ∀ (i : Nat) (x : Value) (g : Nat), vs[i]? = some x → x.ownBlock = some g → g < hi := fun i x g e1 e2 => (h.rows i x e1).2.2 g e2
  have high : ∀ (i : Nat) (x : Value) (g : Nat), us[i]? = some x → x.ownBlock = some g → a ≤ g := fun i x g e1 e2 => ((hu.rows i x e1).1.lt g e2).1
  refine ⟨by simpa using ho, Nat.le_refl _, fun g e => (ho.lt g e).2, ?_, ?_⟩
  · intro i x hi'
    rcases key i x hi' with ⟨h3, h4⟩ | ⟨h3, h4⟩
    · have e : (L ++ M).getD i [] = L.getD i [] := by simp [List.getD, List.getElem?_append_left h3]
      rw [e]
      exact ((h.rows i x h4).other hg (fun g e1 e2 => (h.apart i x g h4 e1).1 e2)).wider (Nat.le_refl _) (by omega) (Nat.le_refl _)
    · have e : (L ++ M).getD i [] = M.getD (i - L.length) [] := by simp [List.getD, List.getElem?_append_right h3]
      rw [e]
      exact ((hu.rows _ x h4).other hg (fun g e1 e2 => by have := high _ x g h4 e1; have := hob g e2; omega)).wider h2 (by have := hu.top; omega) (Nat.le_refl _)
  · intro i x g hi' hgx
    have hlt : g < w.heap.size := by
      rcases key i x hi' with ⟨_, h4⟩ | ⟨_, h4⟩
      · exact ((h.rows i x h4).1.lt g hgx).2
      · exact ((hu.rows _ x h4).1.lt g hgx).2
    refine ⟨fun e => ?_, fun j y hj hgy => ?_⟩
    · rcases hv with e2 | e2
      · rw [e2] at e
        rcases key i x hi' with ⟨_, h4⟩ | ⟨_, h4⟩
        · exact (h.apart i x g h4 hgx).1 e
        · have := high _ x g h4 hgx; have := hob g e; omega
      · rw [e2] at e; simp at e; omega
    · rcases key i x hi' with ⟨h3, h4⟩ | ⟨h3, h4⟩ <;> rcases key j y hj with ⟨h5, h6⟩ | ⟨h5, h6⟩
      · exact (h.apart i x g h4 hgx).2 j y h6 hgy
      · have := low i x g h4 hgx; have := high _ y g h6 hgy; omega
      · have := low j y g h6 hgy; have := high _ x g h4 hgx; omega
      · have := (hu.apart _ x g h4 hgx).2 _ y h6 hgy; omega
/-- a store into a block that is none of its own -/
theorem OwnM.other {E EE : TypeId} {w w' : World} {lo hi B : Nat} {v : Value} {L : Mat} {vs : List Value} (h : OwnM E EE w lo hi v L vs) (hg : w.grownBy w' (some B)) (hv : v.ownBlock ≠ some B) (hr : ∀ u ∈ vs, u.ownBlock ≠ some B) : OwnM E EE w' lo hi v L vs :=
  ⟨own_other h.row hg (fun g e e2 => by cases e2; exact hv e), Nat.le_trans h.top hg.size, h.out, fun i u hu => (h.rows i u hu).other hg (fun g e e2 => by cases e2; exact hr u (List.mem_of_getElem? hu) e), h.apart⟩
theorem OwnM.rowBlock {E EE : TypeId} {w : World} {lo hi : Nat} {v : Value} {L : Mat} {vs : List Value} (h : OwnM E EE w lo hi v L vs) : ∀ u ∈ vs, ∀ g, u.ownBlock = some g → lo ≤ g ∧ g < hi := fun u hu g e => by
  obtain ⟨i, hi, rfl⟩ := List.getElem_of_mem hu
  have := h.rows i _ (List.getElem?_eq_getElem hi)
  exact ⟨(this.1.lt g e).1, this.2.2 g e⟩
theorem grown_set {w : World} (B o : Nat) (x : Value) : w.grownBy (w.setCell ⟨B, o, none⟩ x) (some B) := by
  have t := turn_setCell w B o x
  exact ⟨t.os, t.tape, t.output, t.size, fun k hk hne => t.block k hk (by have : k ≠ B := fun e => hne (by rw [e]); omega)⟩
theorem rows_oneC {E EE : TypeId} {w : World} {lo hi : Nat} {v : Value} {L : Mat} {vs : List Value} (h : OwnM E EE w lo hi v L vs) : ∀ y, y ∈ vs → y.oneCell' = true := fun y hy => by
  obtain ⟨i, hi, rfl⟩ := List.getElem_of_mem hy
  obtain ⟨A, n, c, e⟩ := own_isSlice (h.rows i _ (List.getElem?_eq_getElem hi)).1
  rw [e]; rfl
/-- the matrix of a code -/
def codF (k : Nat) : Ents := fun i j => if i < k then idF i j else cauF k (i - k) j
def codM (k m : Nat) : Mat := mkM (k + m) k (codF k)
theorem codM_eq (k m : Nat) : mkM k k idF ++ mkM m k (cauF k) = codM k m := by
  apply List.ext_getElem
  · simp [codM]
  · intro i h1 h2
    rcases Nat.lt_or_ge i k with h | h
    · rw [List.getElem_append_left (by simpa using h)]
      simp only [codM, mkM, List.getElem_map, List.getElem_range]
      exact mkRow_congr fun j _ => by simp [codF, h]
    · rw [List.getElem_append_right (by simpa using h)]
      simp only [codM, mkM, List.getElem_map, List.getElem_range, List.length_map, List.length_range]
      exact mkRow_congr fun j _ => by simp [codF, Nat.not_lt.2 h]
def codR (k m : Int) : Mat := if shapeOk k m then codM k.toNat m.toNat else []
theorem codR_yes {k m : Nat} (h : shapeOk k m = true) : codR k m = codM k m := by unfold codR; rw [if_pos h]; simp
theorem codR_no {k m : Int} (h : shapeOk k m = false) : codR k m = [] := by unfold codR; rw [if_neg (by rw [h]; simp)]
theorem codR_siz (k m : Int) : sizM (codR k m) ≤ 256 := by
  unfold codR; split
  · rename_i h
    have := shapeOk_b h
    exact sizM_side _ (by omega) (by omega)
  · simp [sizM]
end G294
namespace Go.Proofs.YtipmfebnjmobfaaDoor
open Go.RowKit G294

set_option maxRecDepth 100000 in
set_option maxHeartbeats 2000000 in
theorem codeMatrix_own (k m : Int) (w : World) (ht : Tab w) (h0 : 1 < w.heap.size) :
    Calls Tryd.prog 38 #[.int .i64 k, .int .i64 m] w (RetMatOk 5 42 w (codR k m) (shapeOk k m)) := by
  have hb0 : Below w.heap.size w (w.alloc (.cells #[.slice none 0 0] 60)) := (Below.refl _ _).alloc (Nat.le_refl _) _
  have hz0 := World.size_alloc w (.cells #[.slice none 0 0] 60)
  by_cases h : shapeOk k m = true
  · have HO := Lib.hid h
    have hb := shapeOk_b h
    clear h
    obtain ⟨p, rfl⟩ := Int.eq_ofNat_of_zero_le (show 0 ≤ k by omega)
    obtain ⟨q, rfl⟩ := Int.eq_ofNat_of_zero_le (show 0 ≤ m by omega)
    have HR := Lib.hid (codR_yes HO.out)
    have HG1 : Hid (goodI p = true) := by show goodI p = true; simp [goodI]; omega
    have HS : Hid (sidesOk q p = true) := by show sidesOk q p = true; simp [sidesOk, goodI]; omega
    have HR1 : Hid (idR p = mkM p p idF) := by show idR p = _; unfold idR; rw [if_pos HG1.out]; simp
    have HR2 : Hid (cauR q p = mkM q p (cauF p)) := by show cauR q p = _; unfold cauR; rw [if_pos HS.out]; simp
    have c0 := alloc_cell w (.slice none 0 0) 60
    have l0 := alloc_lt w (.cells #[.slice none 0 0] 60)
    have f0 : (w.alloc (.cells #[.slice none 0 0] 60)).frozen? ⟨w.heap.size, 0, none⟩ = false := by simp
    go_enter Tryd.func38, Tryd.ntmps38
    go_wp2_with fail
    refine (goodShape_any _ _ _).mono ?_
    rintro e w' ⟨rfl, rfl⟩
    rw [HO.out]
    go_wp2_with fail
    refine (identity_own p _).mono ?_
    rintro e w1 ⟨v1, vs1, rfl, hM1, k1⟩
    rw [HR1.out] at hM1
    obtain ⟨g1, cp1, rfl, hg1, hg1', hcp1, hcp1'⟩ := hM1.sliceF (by omega)
    have hs1 := k1.size
    have hb1 := k1.base hb0 (by omega) (by omega)
    have a1 := turn_alloc w1 (.cells #[.slice (some ⟨g1, 0, none⟩) p cp1] 60)
    have z1 := World.size_alloc w1 (.cells #[.slice (some ⟨g1, 0, none⟩) p cp1] 60)
    replace hb1 := a1.base hb1 (by omega) (by omega)
    replace hM1 := hM1.keep a1 (by omega)
    have c1 := alloc_cell w1 (.slice (some ⟨g1, 0, none⟩) p cp1) 60
    have l1 := alloc_lt w1 (.cells #[.slice (some ⟨g1, 0, none⟩) p cp1] 60)
    replace c0 := cell_turn a1 (cell_turn k1 c0 l0) (by omega)
    replace f0 := frozen_turn a1 (frozen_turn k1 f0 l0) (by omega)
    go_wp2_with fail
    refine (cauchy_own q p _ (ht.below hb1 h0) (by omega)).mono ?_
    rintro e w2 ⟨v2, vs2, rfl, hM2, k2⟩
    rw [HR2.out] at hM2
    obtain ⟨g2, cp2, rfl, hg2, hg2', hcp2, hcp2'⟩ := hM2.sliceF (by omega)
    have hs2 := k2.size
    have hb2 := k2.base hb1 (by omega) (by omega)
    have a2 := turn_alloc w2 (.cells #[.slice (some ⟨g2, 0, none⟩) q cp2] 60)
    have z2 := World.size_alloc w2 (.cells #[.slice (some ⟨g2, 0, none⟩) q cp2] 60)
    replace hb2 := a2.base hb2 (by omega) (by omega)
    replace hM1 := (hM1.keep k2 (by omega)).keep a2 (by omega)
    replace hM2 := hM2.keep a2 (by omega)
    have c2 := alloc_cell w2 (.slice (some ⟨g2, 0, none⟩) q cp2) 60
    replace c1 := cell_turn a2 (cell_turn k2 c1 l1) (by omega)
    replace c0 := cell_turn a2 (cell_turn k2 c0 (by omega)) (by omega)
    replace f0 := frozen_turn a2 (frozen_turn k2 f0 (by omega)) (by omega)
    have hys : ∀ j y, vs2[j]? = some y → (w2.alloc (.cells #[.slice (some ⟨g2, 0, none⟩) q cp2] 60)).cell? ((⟨g2, 0, none⟩ : Addr).add j) = some y := fun j y hj => by
      rw [Addr.add_lit, Nat.zero_add]; exact hM2.cellAt hj
    have hyl : vs2.length = q := by have := hM2.vlen; simpa using this
    have hy1 : ∀ y, y ∈ vs2 → y.oneCell' = true := fun y hy => by
      obtain ⟨i, hi, rfl⟩ := List.getElem_of_mem hy
      obtain ⟨A, n, c, e⟩ := own_isSlice (hM2.rows i _ (List.getElem?_eq_getElem hi)).1
      rw [e]; rfl
    have hr1 : (w2.alloc (.cells #[.slice (some ⟨g2, 0, none⟩) q cp2] 60)).ownsRow (w.alloc (.cells #[.slice none 0 0] 60)).heap.size 42 1 (.slice (some ⟨g1, 0, none⟩) p cp1) p vs1 := by have := hM1.row; simpa using this
    have HYS := Lib.hid hys
    have HY1 := Lib.hid hy1
    have HM1 := Lib.hid hM1
    have HM2 := Lib.hid hM2
    have HR0 := Lib.hid hr1
    clear hys hy1 hM1 hM2 hr1
    go_wp2_with (at_builtin; refine wpList_appendN rfl _ _ _ rfl (w.alloc (.cells #[.slice none 0 0] 60)).heap.size 42 _ _ Tryd.underlying58 infoRowB rfl _ p vs1 rfl HR0.out ⟨g2, 0, none⟩ q cp2 vs2 rfl hyl HYS.out HY1.out ?c1 ?c2 ?c3 ?_)
    case c1 => omega
    case c2 => omega
    case c3 => omega
    intro v' w3 hown hg hv
    obtain ⟨A', n', cp', rfl⟩ := own_isSlice hown
    have hM3 := (HM1.out.join HM2.out (by omega) (by omega) (by simpa using hown) hg (by rw [z2]; exact hv)).congr (codM_eq p q)
    have k3 : TurnIn (w.heap.size + 1) w1.heap.size (w2.alloc (.cells #[.slice (some ⟨g2, 0, none⟩) q cp2] 60)) w3 := TurnIn.of_grown hg (fun g e => by simp [Value.ownBlock] at e; omega)
    have hs3 := k3.size
    have hb3 := k3.base hb2 (by omega) (by omega)
    have hq : w3.cell? ⟨w.heap.size, 0, none⟩ = some (.slice none 0 0) := box_keep c0 (by omega) k3 (by omega)
    have hqf : w3.frozen? ⟨w.heap.size, 0, none⟩ = false := by
      have e := k3.block w.heap.size (by omega) (by omega)
      unfold World.frozen? at f0 ⊢
      rw [e]; exact f0
    clear hown hg hv
    go_wp2_with fail
    refine bodyPost_ret (v := .tuple #[.agg #[.slice A' n' cp'], .bool true]) (by simp [results, Tryd.results38, go_sem, hq]) rfl ?_
    have kk := turn_setCell w3 w.heap.size 0 (.slice A' n' cp')
    refine ⟨.slice A' n' cp', vs1 ++ vs2, by rw [HO.out], ?_, TurnIn.of_below (hb3.setCell (Nat.le_refl _) _)⟩
    rw [HR.out]
    exact (hM3.keep kk (by omega)).wider (by omega) (by simp) (by simp)
  · have HO : Hid (shapeOk k m = false) := by show shapeOk k m = false; simpa using h
    have HR := Lib.hid (codR_no HO.out)
    clear h
    go_enter Tryd.func38, Tryd.ntmps38
    go_wp2_with fail
    refine (goodShape_any _ _ _).mono ?_
    rintro e w' ⟨rfl, rfl⟩
    rw [HO.out]
    go_wp2_with fail
    refine bodyPost_ret (v := .tuple #[.agg #[.slice none 0 0], .bool false]) (by simp [results, Tryd.results38, go_sem]) rfl ?_
    exact ⟨_, [], by rw [HO.out], by rw [HR.out]; exact OwnM.nil _ _ _ _, TurnIn.of_below hb0⟩

set_option maxRecDepth 100000 in
set_option maxHeartbeats 4000000 in
theorem l3Matrix_own (p q : Nat) (w : World) (h1 : 1 ≤ p) (h2 : p ≤ 8) (h3 : 1 ≤ q) (h4 : q ≤ 6) :
    Calls Tryd.prog 69 #[.int .i64 p, .int .i64 q] w (RetMat 5 42 w (codM p q)) := by
  have hb0 : Below w.heap.size w (w.alloc (.cells #[.slice none 0 0] 60)) := (Below.refl _ _).alloc (Nat.le_refl _) _
  have hz0 := World.size_alloc w (.cells #[.slice none 0 0] 60)
  have c0 := alloc_cell w (.slice none 0 0) 60
  have l0 := alloc_lt w (.cells #[.slice none 0 0] 60)
  have f0 : (w.alloc (.cells #[.slice none 0 0] 60)).frozen? ⟨w.heap.size, 0, none⟩ = false := by simp
  go_enter Tryd.func69, Tryd.ntmps69
  go_wp2_with fail
  refine (l2Identity_own p _ h1 (by omega)).mono ?_
  rintro e w1 ⟨v1, vs1, rfl, hM1, k1⟩
  obtain ⟨g1, cp1, rfl, hg1, hg1', hcp1, hcp1'⟩ := hM1.sliceF (by omega)
  have hs1 := k1.size
  have hb1 := k1.base hb0 (by omega) (by omega)
  have a1 := turn_alloc w1 (.cells #[.slice (some ⟨g1, 0, none⟩) p cp1] 60)
  have z1 := World.size_alloc w1 (.cells #[.slice (some ⟨g1, 0, none⟩) p cp1] 60)
  replace hb1 := a1.base hb1 (by omega) (by omega)
  replace hM1 := hM1.keep a1 (by omega)
  have c1 := alloc_cell w1 (.slice (some ⟨g1, 0, none⟩) p cp1) 60
  have l1 := alloc_lt w1 (.cells #[.slice (some ⟨g1, 0, none⟩) p cp1] 60)
  have f1 : (w1.alloc (.cells #[.slice (some ⟨g1, 0, none⟩) p cp1] 60)).frozen? ⟨w1.heap.size, 0, none⟩ = false := by simp
  replace c0 := cell_turn a1 (cell_turn k1 c0 l0) (by omega)
  replace f0 := frozen_turn a1 (frozen_turn k1 f0 l0) (by omega)
  obtain ⟨W1, hW1⟩ : ∃ W1, W1 = w1.alloc (.cells #[.slice (some ⟨g1, 0, none⟩) p cp1] 60) := ⟨_, rfl⟩
  have HM1 := Lib.hid hM1
  clear hM1
  have hne1 : (Value.slice (some ⟨g1, 0, none⟩) p cp1).ownBlock ≠ some w1.heap.size := by simp [Value.ownBlock]; omega
  have hne0 : (Value.slice (some ⟨g1, 0, none⟩) p cp1).ownBlock ≠ some w.heap.size := by simp [Value.ownBlock]; omega
  have hfd : ∀ (W : World) (x : Value), (Instr.field 60 (.agg #[x]) 0).run Tryd.prog W = .ok x W := fun W x => by simp [go_sem, Instr.field, asAgg, run_underlying Tryd.underlying60]
  go_wp2_with fail
  go_region_law (first
    | (go_simp; go_at_call 120; go_must (refine (l2Cauchy_own q p _ h3 h1 (by omega) (by omega)).mono ?_; rintro e w2 ⟨v2, vs2, rfl, hM2, k2⟩; obtain ⟨g2, cp2, rfl, hg2, hg2', hcp2, hcp2'⟩ := hM2.sliceF (by omega); replace k2 := undrew k2; have d1 := cell_turn k2 c1 l1; have hs2 := k2.size; have hM1' := HM1.out.keep k2 (by omega); have hr1 : w2.ownsRow (w.alloc (.cells #[.slice none 0 0] 60)).heap.size 42 1 (.slice (some ⟨g1, 0, none⟩) p cp1) p vs1 := (by have := hM1'.row; simpa using this); have hyl : vs2.length = q := (by have := hM2.vlen; simpa using this)))
    | (refine step_appendN (by rfl) _ _ _ (by rfl) (w.alloc (.cells #[.slice none 0 0] 60)).heap.size 42 _ _ Tryd.underlying58 infoRowB rfl _ p vs1 (by rfl) hr1 ⟨g2, 0, none⟩ q cp2 vs2 (by rfl) hyl (fun j y hj => by rw [Addr.add_lit, Nat.zero_add]; exact hM2.cellAt hj) (rows_oneC hM2) (by omega) (by omega) (by omega) ?_; intro v' w3 hown hg hv; obtain ⟨A', n', cp', rfl⟩ := own_isSlice hown; have e1 := (cell_past k2 hg hne1 l1 0).trans c1; have e1f := (frozen_past k2 hg hne1 l1 0).trans f1; have e0 := (cell_past k2 hg hne0 (by omega) 0).trans c0; have e0f := (frozen_past k2 hg hne0 (by omega) 0).trans f0))
  all_goals
    have hM3 := (hM1'.join hM2 (by have : (w1.alloc (.cells #[.slice (some ⟨g1, 0, none⟩) p cp1] 60)).drew.heap.size = w1.heap.size + 1 := z1; omega) (by have : (w1.alloc (.cells #[.slice (some ⟨g1, 0, none⟩) p cp1] 60)).drew.heap.size = w1.heap.size + 1 := z1; omega) (by simpa using hown) hg hv).congr (codM_eq p q)
    have k3 : TurnIn (w.heap.size + 1) w1.heap.size w2 w3 := TurnIn.of_grown hg (fun g e => by simp [Value.ownBlock] at e; omega)
    have hs3 := k3.size
    have hb3 := k3.base (k2.base hb1 (by omega) (by omega)) (by omega) (by omega)
    have kk1 := turn_setCell w3 w1.heap.size 0 (.slice A' n' cp')
    have kk0 := turn_setCell (w3.setCell ⟨w1.heap.size, 0, none⟩ (.slice A' n' cp')) w.heap.size 0 (.slice A' n' cp')
    have hb5 := (hb3.setCell (p := ⟨w1.heap.size, 0, none⟩) (by show w.heap.size ≤ w1.heap.size; omega) (.slice A' n' cp')).setCell (p := ⟨w.heap.size, 0, none⟩) (Nat.le_refl _) (.slice A' n' cp')
    have e3 : (w3.setCell ⟨w1.heap.size, 0, none⟩ (.slice A' n' cp')).cell? ⟨w1.heap.size, 0, none⟩ = some (.slice A' n' cp') := World.cell?_setCell_same _ _ _ e1
    have e4 : (w3.setCell ⟨w1.heap.size, 0, none⟩ (.slice A' n' cp')).cell? ⟨w.heap.size, 0, none⟩ = some (.slice none 0 0) := (cell_set_other w3 0 0 _ (by omega)).trans e0
    have e5 : (w3.setCell ⟨w1.heap.size, 0, none⟩ (.slice A' n' cp')).frozen? ⟨w.heap.size, 0, none⟩ = false := (frozen_set_other w3 0 0 _ (by omega)).trans e0f
    have hM4 := hM3.other (grown_set w1.heap.size 0 (.slice A' n' cp')) (by rcases hv with e | e <;> rw [e] <;> simp [Value.ownBlock] <;> omega) (fun u hu e => by
      rcases List.mem_append.1 hu with h | h
      · have := hM1'.rowBlock u h _ e; omega
      · have h5 := hM2.rowBlock u h _ e
        have h6 : (w1.alloc (.cells #[.slice (some ⟨g1, 0, none⟩) p cp1] 60)).drew.heap.size = w1.heap.size + 1 := z1
        omega)
    have HM3 := Lib.hid hM4
    clear hM4
    clear hM3 hM1' hM2 hown hg hv hr1 hyl e1 e1f e0 e0f d1 hfd
    go_wp2_with fail
    refine bodyPost_ret (v := .agg #[.slice A' n' cp']) (by simp [results, Tryd.results69, go_sem, e4]) rfl ?_
    refine ⟨.slice A' n' cp', vs1 ++ vs2, rfl, (HM3.out.keep kk0 (by omega)).wider (by omega) (by simp) (by simp), TurnIn.of_below hb5⟩

set_option maxRecDepth 100000 in
set_option maxHeartbeats 1000000 in
theorem sCodeMatrix_own (k m : Int) (w : World) : Calls Tryd.prog 39 #[.int .i64 k, .int .i64 m] w (RetMatOk 5 42 w (codR k m) (shapeOk k m)) := by
  have hb0 : Below w.heap.size w (w.alloc (.cells #[.slice none 0 0] 60)) := (Below.refl _ _).alloc (Nat.le_refl _) _
  by_cases h : shapeOk k m = true
  · have HO := Lib.hid h
    have hb := shapeOk_b h
    clear h
    obtain ⟨p, rfl⟩ := Int.eq_ofNat_of_zero_le (show 0 ≤ k by omega)
    obtain ⟨q, rfl⟩ := Int.eq_ofNat_of_zero_le (show 0 ≤ m by omega)
    have HR := Lib.hid (codR_yes HO.out)
    go_enter Tryd.func39, Tryd.ntmps39
    go_wp2_with fail
    refine (sGoodShape_any _ _ _).mono ?_
    rintro e w' ⟨rfl, rfl⟩
    rw [HO.out]
    go_wp2_with fail
    refine (l3Matrix_own p q _ (by omega) (by omega) (by omega) (by omega)).mono ?_
    rintro e w' ⟨v', vs', rfl, hM, ht⟩
    obtain ⟨A', n', c', rfl⟩ := hM.isSlice
    have hq := cell_turn ht (B := w.heap.size) (o := 0) (x := .slice none 0 0) (by simp) (by simp)
    have hqf := frozen_turn ht (B := w.heap.size) (o := 0) (x := false) (by simp) (by simp)
    have HF := Lib.hid (ret_store hb0 hM ht w.heap.size 0 (Nat.le_refl _) (by simp) (.slice A' n' c'))
    clear hM ht hb0
    go_wp2_with fail
    refine bodyPost_ret (v := .tuple #[.agg #[.slice A' n' c'], .bool true]) (by simp [results, Tryd.results39, go_sem, hq]) rfl ?_
    exact ⟨.slice A' n' c', vs', by rw [HO.out], by rw [HR.out]; exact HF.out.1, HF.out.2⟩
  · have HO : Hid (shapeOk k m = false) := by show shapeOk k m = false; simpa using h
    have HR := Lib.hid (codR_no HO.out)
    clear h
    go_enter Tryd.func39, Tryd.ntmps39
    go_wp2_with fail
    refine (sGoodShape_any _ _ _).mono ?_
    rintro e w' ⟨rfl, rfl⟩
    rw [HO.out]
    go_wp2_with fail
    refine bodyPost_ret (v := .tuple #[.agg #[.slice none 0 0], .bool false]) (by simp [results, Tryd.results39, go_sem]) rfl ?_
    exact ⟨_, [], by rw [HO.out], by rw [HR.out]; exact OwnM.nil _ _ _ _, TurnIn.of_below hb0⟩

end Go.Proofs.YtipmfebnjmobfaaDoor
