/- Joined texts: SpecFill, Allocs, Fill2, SpecOwn, CodeM, SymRows, FieldBytes. -/
import Derived.Test.YtbopocpmodpfcaaDoorBd04
import Derived.Test.YtbopocpmodpfcaaDoorBd01
import Derived.Deep.DeepMust
import Derived.Deep.RegionHeldLaw
import Derived.Test.YtbopocpmodpfcaaDoorBd02
import Derived.Deep.RegionHeld3
import Derived.BigRegion
import Derived.Test.YtbopocpmodpfcaaDoorBd03
import Derived.Test.YtbopocpmodpfcaaDoorBd00
set_option linter.unusedSimpArgs false
set_option linter.unusedVariables false
/- The model's identity, Vandermonde and Cauchy matrices. -/
namespace G294
open Go Go.RowKit
/-- what a function that fills a matrix keeps: its rows, the variable that holds them, the variable of its result, and old memory -/
structure Fill (E EE : TypeId) (w wr : World) (B : Nat) (v : Value) (L : Mat) (vs : List Value) : Prop where
  own : OwnM E EE wr (w.heap.size + 1) B v L vs
  var : wr.cell? ⟨B, 0, none⟩ = some v
  res : wr.cell? ⟨w.heap.size, 0, none⟩ = some (.slice none 0 0)
  resf : wr.frozen? ⟨w.heap.size, 0, none⟩ = false
  old : Below w.heap.size w wr
  size : B < wr.heap.size
  lo : w.heap.size < B
theorem Fill.drewN {E EE : TypeId} {w wr : World} {B : Nat} {v : Value} {L : Mat} {vs : List Value} (h : Fill E EE w wr B v L vs) (q : Nat) : Fill E EE w (wr.drewN q) B v L vs :=
  ⟨h.own.drewN q, h.var, h.res, h.resf, below_drewN h.old q, h.size, h.lo⟩
theorem Fill.congr {E EE : TypeId} {w wr : World} {B : Nat} {v : Value} {L L' : Mat} {vs : List Value} (h : Fill E EE w wr B v L vs) (e : L = L') : Fill E EE w wr B v L' vs := e ▸ h
theorem Fill.storeF {E EE : TypeId} {w wr : World} {B r c k j bb m cap' : Nat} {F : Ents} {x : UInt8} {v : Value} {vs : List Value} (h : Fill E EE w wr B v (mkM r c F) vs) (hk : k < r) (hu : vs[k]? = some (.slice (some ⟨bb, 0, none⟩) m cap')) :
    Fill E EE w (wr.setCell ⟨bb, j, none⟩ (.int .u8 (x.toNat : Int))) B v (mkM r c fun i jj => if i = k ∧ jj = j then x else F i jj) vs := by
  have ho := h.own.rows k _ hu
  have h1 := (ho.1.lt bb rfl).1
  have h2 := ho.2.2 bb rfl
  have hlo := h.lo
  exact ⟨h.own.storeF hk hu, (cell_set_other wr _ _ _ (by omega)).trans h.var, (cell_set_other wr _ _ _ (by omega)).trans h.res, (frozen_set_other wr _ _ _ (by omega)).trans h.resf, h.old.setCell (show w.heap.size ≤ bb by omega) _, by simpa using h.size, hlo⟩
theorem Fill.start {E EE : TypeId} {w w1 w2 : World} {v : Value} {L : Mat} {vs : List Value} {t : TypeId} (hw2 : w2 = w1.alloc (.cells #[v] t)) (hM : OwnM E EE w1 (w.heap.size + 1) w1.heap.size v L vs) (hc : w1.cell? ⟨w.heap.size, 0, none⟩ = some (.slice none 0 0)) (hf : w1.frozen? ⟨w.heap.size, 0, none⟩ = false)
    (hb : Below w.heap.size w w1) (hs : w.heap.size + 1 ≤ w1.heap.size) : Fill E EE w w2 w1.heap.size v L vs := by
  subst hw2
  have kA : TurnIn 0 0 w1 (w1.alloc (.cells #[v] t)) := TurnIn.of_below ((Below.refl _ _).alloc (Nat.le_refl _) _)
  exact ⟨hM.keep kA (by omega), by simp, cell_turn kA hc (by omega), frozen_turn kA hf (by omega), hb.alloc (by omega) _, by simp, by omega⟩
/-- the rows are stored into the result -/
theorem Fill.finish {E EE : TypeId} {w wr : World} {B : Nat} {v : Value} {L : Mat} {vs : List Value} (h : Fill E EE w wr B v L vs) :
    RetMat E EE w L (.returned (.agg #[v])) (wr.setCell ⟨w.heap.size, 0, none⟩ v) := by
  have kk := turn_setCell wr w.heap.size 0 v
  have hs := h.size
  exact ⟨v, vs, rfl, (h.own.keep kk (by omega)).wider (by omega) (by simp; omega) (by simp), TurnIn.of_below (h.old.setCell (Nat.le_refl _) _)⟩
end G294
namespace Go.Proofs.YtbopocpmodpfcaaDoor
open Go.RowKit G294

set_option maxRecDepth 100000 in
set_option maxHeartbeats 2000000 in
theorem l2Identity_own (n : Nat) (w : World) (h1 : 1 ≤ n) (hn : n ≤ 1000) : Calls Tryd.prog 110 #[.int .i64 n] w (RetMat 5 22 w (mkM n n idF)) := by
  have hb0 : Below w.heap.size w (w.alloc (.cells #[.slice none 0 0] 39)) := (Below.refl _ _).alloc (Nat.le_refl _) _
  go_enter Tryd.func110, Tryd.ntmps110
  go_wp2_with fail
  refine (l2Blank_own n n _ hn hn).mono ?_
  rintro e w1 ⟨v, vs, rfl, hM, ht⟩
  obtain ⟨g, cp, rfl, hg1, hg2, hg3, hg4⟩ := hM.sliceF h1
  have hc0 := cell_turn ht (B := w.heap.size) (o := 0) (x := .slice none 0 0) (by simp) (by simp)
  have hf0 := frozen_turn ht (B := w.heap.size) (o := 0) (x := false) (by simp) (by simp)
  have hb1 := ht.base hb0 (by simp) (by omega)
  have hs1 := ht.size
  rw [World.size_alloc] at hs1 hM hg1
  have hF := Fill.start (t := 39) rfl (hM.congr (L' := mkM n n fun i j => if i = j ∧ i < 0 then 1 else 0) (mkM_congr fun i j _ _ => by simp)) hc0 hf0 hb1 hs1
  have HF0 := Lib.hid hF
  clear hM ht hb0 hb1 hc0 hf0 hF
  unfold maxLen at hg4
  have hcB : (w1.alloc (.cells #[.slice (some ⟨g, 0, none⟩) n cp] 39)).cell? ⟨w1.heap.size, 0, none⟩ = some (.slice (some ⟨g, 0, none⟩) n cp) := by simp
  go_wp2_with fail
  generalize w1.alloc (.cells #[.slice (some ⟨g, 0, none⟩) n cp] 39) = w2 at *
  generalize w1.heap.size = B at *
  go_loopw [11] (fun i wr => ∃ k : Nat, k ≤ n ∧ i = .int .i64 k ∧ Hid (Fill 5 22 w wr B (.slice (some ⟨g, 0, none⟩) n cp) (mkM n n fun i j => if i = j ∧ i < k then 1 else 0) vs))
    (fun i _ => n - (intOf i).toNat)
  case atStart => exact ⟨0, Nat.zero_le _, rfl, HF0.out⟩
  case round =>
    obtain ⟨k, hk, rfl, HF⟩ := hrel
    have hvar := HF.out.var
    clear hcB
    by_cases hlt : k < n
    · have hki : (k : Int) < (n : Int) := by omega
      obtain ⟨bb, cp2, hu, e1, e2, e3, e4, e5, hfz, hcell⟩ := HF.out.own.rowF k hlt (by omega)
      have hco := HF.out.own.cellAt hu
      have hcx := hcell k hlt
      have hfr := hfz k
      unfold maxLen at e5
      have HF2 := Lib.hid ((HF.out.storeF (j := k) (x := 1) hlt hu).congr (L' := mkM n n fun i j => if i = j ∧ i < k + 1 then 1 else 0) (mkM_congr fun i j _ _ => by
        by_cases a1 : i = k
        · subst a1
          by_cases a2 : j = i
          · subst a2; simp
          · have a3 : ¬ i = j := fun e => a2 e.symm
            simp [a2, a3]
        · by_cases a2 : i = j
          · subst a2
            by_cases a3 : i < k
            · simp [a1, a3]; omega
            · simp [a1, a3]; omega
          · simp [a1, a2]))
      clear hcell hfz hu e3
      go_wp2_with fail
      go_roundw
      case rel => exact ⟨k + 1, by omega, by go_num, HF2.out⟩
      case measure => simp [intOf]; omega
    · obtain rfl : k = n := by omega
      have hki : ¬ (k : Int) < (k : Int) := by omega
      have hc0 := HF.out.res
      have hf0 := HF.out.resf
      go_wp2_with fail
      refine bodyPost_ret (v := .agg #[.slice (some ⟨g, 0, none⟩) k cp]) (by simp [results, Tryd.results110, go_sem, hc0]) rfl ?_
      exact (HF.out.congr (L' := mkM k k idF) (mkM_congr fun i j hi _ => by simp [idF, hi])).finish

end Go.Proofs.YtbopocpmodpfcaaDoor

/- Blocks made one behind the other. -/
namespace G294
open Go Go.RowKit
theorem alloc_mid_cell (w : World) (o1 o3 : Obj) (v : Value) (T : TypeId) : (((w.alloc o1).alloc (.cells #[v] T)).alloc o3).cell? ⟨w.heap.size + 1, 0, none⟩ = some v := by
  have h : ((w.alloc o1).alloc (.cells #[v] T)).cell? ⟨w.heap.size + 1, 0, none⟩ = some v := by simp
  exact cell_turn (turn_alloc _ o3) h (by rw [World.size_alloc, World.size_alloc]; omega)
theorem alloc_mid_frozen (w : World) (o1 o3 : Obj) (v : Value) (T : TypeId) : (((w.alloc o1).alloc (.cells #[v] T)).alloc o3).frozen? ⟨w.heap.size + 1, 0, none⟩ = false := by
  have h : ((w.alloc o1).alloc (.cells #[v] T)).frozen? ⟨w.heap.size + 1, 0, none⟩ = false := by simp
  exact frozen_turn (turn_alloc _ o3) h (by rw [World.size_alloc, World.size_alloc]; omega)
theorem alloc_last_cell (w : World) (o1 o2 : Obj) (v : Value) (T : TypeId) : (((w.alloc o1).alloc o2).alloc (.cells #[v] T)).cell? ⟨w.heap.size + 2, 0, none⟩ = some v := by
  have e : w.heap.size + 2 = ((w.alloc o1).alloc o2).heap.size := by rw [World.size_alloc, World.size_alloc]
  rw [e]; exact (by simp : ∀ w : World, (w.alloc (.cells #[v] T)).cell? ⟨w.heap.size, 0, none⟩ = some v) _
theorem alloc_last_frozen (w : World) (o1 o2 : Obj) (v : Value) (T : TypeId) : (((w.alloc o1).alloc o2).alloc (.cells #[v] T)).frozen? ⟨w.heap.size + 2, 0, none⟩ = false := by
  have e : w.heap.size + 2 = ((w.alloc o1).alloc o2).heap.size := by rw [World.size_alloc, World.size_alloc]
  rw [e]; exact (by simp : ∀ w : World, (w.alloc (.cells #[v] T)).frozen? ⟨w.heap.size, 0, none⟩ = false) _
end G294

/- What a function that fills a matrix keeps, wherever its variable lies. -/
namespace G294
open Go Go.RowKit
theorem RetMat.base {E EE : TypeId} {w w1 w' : World} {L : Mat} {e : Ending} (h : RetMat E EE w1 L e w') (hb : Below w.heap.size w w1) : RetMat E EE w L e w' := by
  obtain ⟨v, vs, he, h1, h2⟩ := h
  exact ⟨v, vs, he, h1.wider hb.size (Nat.le_refl _) (Nat.le_refl _), turn_of_below hb h2⟩
/-- rows, the variable (block B) that holds them, the variable of the result (block R), old memory -/
structure Fill2 (E EE : TypeId) (w wr : World) (R B : Nat) (v : Value) (L : Mat) (vs : List Value) : Prop where
  own : ∃ lo hi, OwnM E EE wr lo hi v L vs ∧ w.heap.size ≤ lo ∧ (R < lo ∨ hi ≤ R) ∧ (B < lo ∨ hi ≤ B)
  var : wr.cell? ⟨B, 0, none⟩ = some v
  res : wr.cell? ⟨R, 0, none⟩ = some (.slice none 0 0)
  resf : wr.frozen? ⟨R, 0, none⟩ = false
  old : Below w.heap.size w wr
  size : B < wr.heap.size ∧ R < wr.heap.size
  lo : w.heap.size ≤ B ∧ w.heap.size ≤ R
section
variable {E EE : TypeId} {w wr : World} {R B : Nat} {v : Value} {L L' : Mat} {vs : List Value}
theorem Fill2.drewN (h : Fill2 E EE w wr R B v L vs) (q : Nat) : Fill2 E EE w (wr.drewN q) R B v L vs := by
  obtain ⟨lo, hi, h1, h2⟩ := h.own
  exact ⟨⟨lo, hi, h1.drewN q, h2⟩, h.var, h.res, h.resf, below_drewN h.old q, h.size, h.lo⟩
theorem Fill2.congr (h : Fill2 E EE w wr R B v L vs) (e : L = L') : Fill2 E EE w wr R B v L' vs := e ▸ h
theorem Fill2.storeF {r c k j bb m cap' : Nat} {F : Ents} {x : UInt8} (h : Fill2 E EE w wr R B v (mkM r c F) vs) (hk : k < r) (hu : vs[k]? = some (.slice (some ⟨bb, 0, none⟩) m cap')) :
    Fill2 E EE w (wr.setCell ⟨bb, j, none⟩ (.int .u8 (x.toNat : Int))) R B v (mkM r c fun i jj => if i = k ∧ jj = j then x else F i jj) vs := by
  obtain ⟨lo, hi, h1, h2, h3, h4⟩ := h.own
  have ho := h1.rows k _ hu
  have e1 := (ho.1.lt bb rfl).1
  have e2 := ho.2.2 bb rfl
  exact ⟨⟨lo, hi, h1.storeF hk hu, h2, h3, h4⟩, (cell_set_other wr _ _ _ (by omega)).trans h.var, (cell_set_other wr _ _ _ (by omega)).trans h.res, (frozen_set_other wr _ _ _ (by omega)).trans h.resf, h.old.setCell (show w.heap.size ≤ bb by omega) _, by simpa using h.size, h.lo⟩
theorem Fill2.rowF {r c : Nat} {F : Ents} (h : Fill2 E EE w wr R B v (mkM r c F) vs) (k : Nat) (hk : k < r) (hc : 0 < c) : ∃ bb cp, vs[k]? = some (.slice (some ⟨bb, 0, none⟩) c cp) ∧ w.heap.size ≤ bb ∧ bb < wr.heap.size ∧ bb ≠ R ∧ bb ≠ B ∧ v.ownBlock ≠ some bb ∧ c ≤ cp ∧ cp ≤ maxLen ∧
    (∀ j, wr.frozen? ⟨bb, j, none⟩ = false) ∧ ∀ j, j < c → wr.cell? ⟨bb, j, none⟩ = some (.int .u8 ((F k j).toNat : Int)) := by
  obtain ⟨lo, hi, h1, h2, h3, h4⟩ := h.own
  obtain ⟨bb, cp, a1, a2, a3, a4, a5, a6, a7, a8⟩ := h1.rowF k hk hc
  have := h1.top
  exact ⟨bb, cp, a1, by omega, by omega, by omega, by omega, a4, a5, a6, a7, a8⟩
theorem Fill2.cellAt {g n cap k : Nat} {u : Value} (h : Fill2 E EE w wr R B (.slice (some ⟨g, 0, none⟩) n cap) L vs) (hk : vs[k]? = some u) : wr.cell? ⟨g, k, none⟩ = some u := by
  obtain ⟨lo, hi, h1, _⟩ := h.own
  exact h1.cellAt hk
theorem Fill2.vblock {g n cap : Nat} (h : Fill2 E EE w wr R B (.slice (some ⟨g, 0, none⟩) n cap) L vs) : w.heap.size ≤ g ∧ g ≠ R ∧ g ≠ B := by
  obtain ⟨lo, hi, h1, h2, h3, h4⟩ := h.own
  have e1 := (h1.row.lt g rfl).1
  have e2 := h1.out g rfl
  exact ⟨by omega, by omega, by omega⟩
/-- the variable is made behind the rows -/
theorem Fill2.late {w1 w2 : World} {t : TypeId} {lo : Nat} (hw2 : w2 = w1.alloc (.cells #[v] t)) (hM : OwnM E EE w1 lo w1.heap.size v L vs) (hlo : w.heap.size ≤ lo) (hR : R < lo ∧ w.heap.size ≤ R) (hc : w1.cell? ⟨R, 0, none⟩ = some (.slice none 0 0)) (hf : w1.frozen? ⟨R, 0, none⟩ = false)
    (hb : Below w.heap.size w w1) (hs : R < w1.heap.size) : Fill2 E EE w w2 R w1.heap.size v L vs := by
  subst hw2
  have kA : TurnIn 0 0 w1 (w1.alloc (.cells #[v] t)) := TurnIn.of_below ((Below.refl _ _).alloc (Nat.le_refl _) _)
  have hbs := hb.size
  exact ⟨⟨lo, w1.heap.size, hM.keep kA (by omega), hlo, by omega, by omega⟩, by simp, cell_turn kA hc hs, frozen_turn kA hf hs, hb.alloc (by omega) _, ⟨by simp, by simp; omega⟩, ⟨hbs, hR.2⟩⟩
/-- the variable was made ahead of the rows -/
theorem Fill2.early {w1 : World} {lo : Nat} (hM : OwnM E EE w1 lo w1.heap.size v L vs) (hlo : w.heap.size ≤ lo) (hR : R < lo ∧ w.heap.size ≤ R) (hB : B < lo ∧ w.heap.size ≤ B) (hne : B ≠ R) (hv : w1.cell? ⟨B, 0, none⟩ = some (.slice none 0 0)) (hc : w1.cell? ⟨R, 0, none⟩ = some (.slice none 0 0)) (hf : w1.frozen? ⟨R, 0, none⟩ = false)
    (hb : Below w.heap.size w w1) (hs : R < w1.heap.size ∧ B < w1.heap.size) : Fill2 E EE w (w1.setCell ⟨B, 0, none⟩ v) R B v L vs := by
  have kA := turn_setCell w1 B 0 v
  exact ⟨⟨lo, w1.heap.size, hM.keep kA (by omega), hlo, by omega, by omega⟩, World.cell?_setCell_same _ _ _ hv, (cell_set_other w1 _ _ _ hne).trans hc, (frozen_set_other w1 _ _ _ hne).trans hf, hb.setCell hB.2 _, ⟨by simpa using hs.2, by simpa using hs.1⟩, ⟨hB.2, hR.2⟩⟩
/-- the rows are stored into the result -/
theorem Fill2.finish (h : Fill2 E EE w wr R B v L vs) : RetMat E EE w L (.returned (.agg #[v])) (wr.setCell ⟨R, 0, none⟩ v) := by
  obtain ⟨lo, hi, h1, h2, h3, _⟩ := h.own
  have kk := turn_setCell wr R 0 v
  exact ⟨v, vs, rfl, (h1.keep kk (by omega)).wider h2 (by have := h1.top; simp; omega) (by simp), TurnIn.of_below (h.old.setCell h.lo.2 _)⟩
end
end G294

/- The model's l2Own. -/
namespace G294
open Go Go.RowKit
/-- append(s, x...) of a row of one-cell elements, onto a row of the call's own, as one step of a region that draws its order -/
theorem step_appendN {P : Program} {w : World} {ops : Array Oper} {o : Oper} {a : Act} {K : Act → World → Prop} {Q : Exit → Act → World → Prop} {E : Prop} (hgd : o.guard = none) (s x : Operand) (t : TypeId)
    (ho : o.op = .call { callee := .builtin .append, args := #[s, x], argTypes := #[t, t] })
    (base : Nat) (e : TypeId) (z : Value) (bytes : Nat) (ht : P.underlying t = some (.slice e)) (hinfo : (P.info? e).map (fun i => (i.zero, i.size, i.bytes)) = some (some z, 1, bytes)) (hzs : z.cells.size = 1)
    (v : Value) (n : Nat) (xs : List Value) (hs : a.eval s = v) (hown : w.ownsRow base e 1 v n xs)
    (A : Addr) (m c : Nat) (ys : List Value) (hx : a.eval x = .slice (some A) m c) (hl : ys.length = m) (hc : ∀ j y, ys[j]? = some y → w.cell? (A.add j) = some y) (h1 : ∀ y, y ∈ ys → y.oneCell' = true)
    (hn : n + m ≤ 1000000000) (hby : bytes ≤ 1000) (hbase : base ≤ w.heap.size)
    (h : ∀ v' w', w'.ownsRow base e 1 v' (n + m) (xs ++ ys) → w.grownBy w' v.ownBlock → (v'.ownBlock = v.ownBlock ∨ v'.ownBlock = some w.heap.size) → K (a.put o.dst v') w') :
    if Region.wanted o (yielded ops a.tmps) = true then Oper.wp P o a w K Q else E := by
  have hw : Region.wanted o (yielded ops a.tmps) = true := by simp [Region.wanted, hgd]
  rw [if_pos hw]
  obtain ⟨i, hi, hz, hsz, hbs⟩ := info_parts hinfo
  obtain ⟨v', w', hrun, r1, r2, _, r4⟩ := run_append_own_at (P := P) w base t o.type e i z 1 bytes ht hi hz hsz hbs hzs (by omega) v n xs hown A m c ys (by omega) hc h1 (by unfold maxLen; omega) (by
    have : (n + m) * bytes ≤ 1000000000 * 1000 := Nat.mul_le_mul (by omega) hby
    omega) hbase
  unfold Oper.wp execOp
  simp only [ho, resolve, invoke, builtin, Sem.run_bind, Sem.run_pure, Result.andThen_ok, List.map_toArray, List.map_cons, List.map_nil, hs, hx, hrun]
  exact h v' w' r1 r2 r4
theorem bys_oneC (l : List UInt8) : ∀ y, y ∈ bys l → y.oneCell' = true := by
  intro y hy
  simp only [bys, List.mem_map] at hy
  obtain ⟨x, _, rfl⟩ := hy
  rfl
theorem turn_trans' {w w1 w2 : World} (k : TurnIn 0 0 w w1) {row : Option Nat} (hg : w1.grownBy w2 row) (hr : ∀ g, row = some g → w.heap.size ≤ g) : TurnIn 0 0 w w2 :=
  TurnIn.of_below (k.to_below.grown hg k.size hr)
end G294
namespace Go.Proofs.YtbopocpmodpfcaaDoor
open Go.RowKit G294

set_option maxRecDepth 100000 in
set_option maxHeartbeats 2000000 in
theorem l2Own_own (r c : Nat) (F : Ents) (v : Value) (w : World) (hs : SeenM w v (mkM r c F)) (hr : r ≤ 1000) (hc : c ≤ 1000) (hc1 : 1 ≤ c) : Calls Tryd.prog 121 #[.agg #[v]] w (RetMat 5 22 w (mkM r c F)) := by
  obtain ⟨A, cp, rfl, hlc, hcm⟩ := hs.len
  rw [mkM_length] at hlc hs ⊢
  unfold maxLen at hcm
  have hb0 : Below w.heap.size w (w.alloc (.cells #[.slice A r cp] 39)) := (Below.refl _ _).alloc (Nat.le_refl _) _
  have hb1 : Below w.heap.size w ((w.alloc (.cells #[.slice A r cp] 39)).alloc (.cells #[.slice none 0 0] 39)) := hb0.alloc (by simp) _
  have hb2 : Below w.heap.size w (((w.alloc (.cells #[.slice A r cp] 39)).alloc (.cells #[.slice none 0 0] 39)).alloc (.cells #[.slice none 0 0] 39)) := hb1.alloc (by simp; omega) _
  have hsz : (((w.alloc (.cells #[.slice A r cp] 39)).alloc (.cells #[.slice none 0 0] 39)).alloc (.cells #[.slice none 0 0] 39)).heap.size = w.heap.size + 3 := by simp
  have hM0 : OwnM 5 22 (((w.alloc (.cells #[.slice A r cp] 39)).alloc (.cells #[.slice none 0 0] 39)).alloc (.cells #[.slice none 0 0] 39)) (w.heap.size + 3) (w.heap.size + 3) (.slice none 0 0) (mkM 0 c F) [] := hsz ▸ OwnM.nil _ _ _ _
  have q2 : (((w.alloc (.cells #[.slice A r cp] 39)).alloc (.cells #[.slice none 0 0] 39)).alloc (.cells #[.slice none 0 0] 39)).cell? ⟨w.heap.size + 2, 0, none⟩ = some (.slice none 0 0) := alloc_last_cell _ _ _ _ _
  have q2f : (((w.alloc (.cells #[.slice A r cp] 39)).alloc (.cells #[.slice none 0 0] 39)).alloc (.cells #[.slice none 0 0] 39)).frozen? ⟨w.heap.size + 2, 0, none⟩ = false := alloc_last_frozen _ _ _ _ _
  have q1 : (((w.alloc (.cells #[.slice A r cp] 39)).alloc (.cells #[.slice none 0 0] 39)).alloc (.cells #[.slice none 0 0] 39)).cell? ⟨w.heap.size + 1, 0, none⟩ = some (.slice none 0 0) := alloc_mid_cell _ _ _ _ _
  have q1f : (((w.alloc (.cells #[.slice A r cp] 39)).alloc (.cells #[.slice none 0 0] 39)).alloc (.cells #[.slice none 0 0] 39)).frozen? ⟨w.heap.size + 1, 0, none⟩ = false := alloc_mid_frozen _ _ _ _ _
  have HSZ := Lib.hid hsz
  have HS := Lib.hid hs
  clear hsz hs
  go_enter Tryd.func121, Tryd.ntmps121
  go_wp2_with fail
  go_loopw [10] (fun i wr => ∃ (k : Nat) (o : Value) (vs : List Value), k ≤ r ∧ i = .int .i64 k ∧ OwnM 5 22 wr (w.heap.size + 3) wr.heap.size o (mkM k c F) vs ∧
      wr.cell? ⟨w.heap.size + 2, 0, none⟩ = some o ∧ wr.frozen? ⟨w.heap.size + 2, 0, none⟩ = false ∧ wr.cell? ⟨w.heap.size + 1, 0, none⟩ = some (.slice none 0 0) ∧ wr.frozen? ⟨w.heap.size + 1, 0, none⟩ = false ∧ Below w.heap.size w wr ∧ w.heap.size + 3 ≤ wr.heap.size)
    (fun i _ => r - (intOf i).toNat)
  case atStart => exact ⟨0, .slice none 0 0, [], Nat.zero_le _, rfl, hM0.wider (Nat.le_refl _) (by rw [HSZ.out]; exact Nat.le_refl _) (Nat.le_refl _), q2, q2f, q1, q1f, hb2, by rw [HSZ.out]; exact Nat.le_refl _⟩
  case round =>
    obtain ⟨k, o, vs, hk, rfl, hM, hc2, hf2, hcr, hfr, hb, hsz⟩ := hrel
    clear hM0 hb2 hb1 hb0 q2 q2f q1 q1f
    by_cases hlt : k < r
    · have hki : (k : Int) < (r : Int) := by omega
      have hrow : wr.ownsRow (w.heap.size + 3) 22 1 o k vs := by simpa using hM.row
      obtain ⟨B, n, co, rfl⟩ := hM.isSlice
      have hsw := HS.out.below hb
      obtain ⟨bb, off, c9, A0, c0, hvv, _, hbb, hcx, hc9, hsr⟩ := hsw.rowF k hlt
      simp only [Value.slice.injEq] at hvv
      obtain ⟨rfl, z9, rfl⟩ := hvv
      obtain ⟨A1, c1, hA1, hcc1, hcc2, hx1⟩ := hsr
      simp only [bys_length, mkRow_length] at hA1 hcc1 hx1
      obtain ⟨b0, off0, hA2, hb0, hx⟩ := hx1 (by omega)
      simp only [Value.slice.injEq] at hA1
      obtain ⟨rfl, _, rfl⟩ := hA1
      subst hA2
      have HX := Lib.hid hx
      clear hx hx1 z9
      have kA : TurnIn 0 0 wr (wr.alloc (.cells #[] 5)).drew := TurnIn.of_below ((Below.refl _ _).alloc (Nat.le_refl _) _).drew
      have hob : ∀ g, (Value.slice B n co).ownBlock = some g → w.heap.size + 3 ≤ g := fun g e => (hrow.lt g e).1
      have hne2 : (Value.slice B n co).ownBlock ≠ some (w.heap.size + 2) := fun e => by have := hob _ e; omega
      have hne1 : (Value.slice B n co).ownBlock ≠ some (w.heap.size + 1) := fun e => by have := hob _ e; omega
      have hown0 : (wr.alloc (.cells #[] 5)).drew.ownsRow wr.heap.size 5 1 (.slice (some ⟨wr.heap.size, 0, none⟩) 0 0) 0 [] := (World.ownsRow_lit wr #[] 0 (Nat.le_refl _) (by unfold maxLen; omega) rfl).drew
      have hcA : (wr.alloc (.cells #[] 5)).cell? ⟨w.heap.size + 2, 0, none⟩ = some (.slice B n co) := cell_turn kA hc2 (by omega)
      have hys : ∀ j y, (bys (mkRow c (F k)))[j]? = some y → (wr.alloc (.cells #[] 5)).drew.cell? ((⟨b0, off0, none⟩ : Addr).add j) = some y := fun j y hj => by rw [Addr.add_lit]; exact cell_turn kA (HX.out j y hj) hb0
      have hyl : (bys (mkRow c (F k))).length = c := by simp
      have HYS := Lib.hid hys
      clear hys
      have HR := Lib.hid hrow
      have HM := Lib.hid hM
      clear hM hrow
      go_wp2_with fail
      go_region_law (first
        | (refine step_appendN (by rfl) _ _ _ (by rfl) wr.heap.size 5 _ _ Tryd.underlying22 infoByte rfl _ 0 [] (by rfl) hown0 ⟨b0, off0, none⟩ c c0 (bys (mkRow c (F k))) (by rfl) hyl HYS.out (bys_oneC _) (by omega) (by omega) (by simp) ?_; intro u1 w1 hown1 hg1 hv1; obtain ⟨C1, m1, d1, rfl⟩ := own_isSlice hown1; have k1 := turn_trans' kA hg1 (fun g e => by simp [Value.ownBlock] at e; omega); have hcB : w1.cell? ⟨w.heap.size + 2, 0, none⟩ = some (.slice B n co) := cell_turn k1 hc2 (by omega); have k2 : TurnIn 0 0 wr (w1.alloc (.cells #[.slice C1 m1 d1] 22)) := turn_trans k1 (turn_alloc _ _) (by omega); have hcC : (w1.alloc (.cells #[.slice C1 m1 d1] 22)).cell? ⟨w.heap.size + 2, 0, none⟩ = some (.slice B n co) := cell_turn k2 hc2 (by omega); have hs1 := k1.size)
        | (refine step_append1 (by rfl) _ _ _ (by rfl) (w.heap.size + 3) 22 _ _ Tryd.underlying37 infoRowB rfl _ k vs (by rfl) (owns_turn HR.out (fun g e => (HR.out.lt g e).2) k2 (by omega)) w1.heap.size (.slice C1 m1 d1) (by rfl) (by simp) (by rfl) (by omega) (by omega) (by simp; omega) ?_; intro v' w2 hown2 hg2 hv2; obtain ⟨A', n', cp', rfl⟩ := own_isSlice hown2; have hc2' := (cell_past k2 hg2 hne2 (by omega) 0).trans hc2; have hf2' := (frozen_past k2 hg2 hne2 (by omega) 0).trans hf2))
      all_goals
        have hR : OwnBytes 5 (w1.alloc (.cells #[.slice C1 m1 d1] 22)) wr.heap.size (w1.heap.size + 1) (.slice C1 m1 d1) (mkRow c (F k)) := by
          refine ⟨?_, by simp, fun g e => by have := (hown1.lt g e).2; omega⟩
          have e : w1.ownsRow wr.heap.size 5 1 (.slice C1 m1 d1) c (bys (mkRow c (F k))) := by simpa using hown1
          rw [mkRow_length]
          exact e.alloc _
        have hM5 := (((HM.out.push k2 hR (Nat.le_refl _) (by omega) (by simpa using hown2) hg2 hv2).keep (turn_setCell w2 (w.heap.size + 2) 0 (.slice A' n' cp')) (by omega)).congr (mkM_succ k c F).symm)
        have hw1 : wr.heap.size ≤ w2.heap.size := by have := hg2.size; have := k2.size; omega
        have hb5 : Below w.heap.size w (w2.setCell ⟨w.heap.size + 2, 0, none⟩ (.slice A' n' cp')) := Below.setCell (TurnIn.base (TurnIn.of_grown (lo := w.heap.size) (hi := w2.heap.size) hg2 (fun g e => ⟨by have := hob g e; omega, by have := (HM.out.out g e); omega⟩)) (k2.base hb (by omega) (by omega)) (by have := k2.size; omega) (by omega)) (Nat.le_add_right _ 2) _
        have hq0 := ((cell_past k2 hg2 hne1 (by omega) 0).trans hcr)
        have hq0f := ((frozen_past k2 hg2 hne1 (by omega) 0).trans hfr)
        clear hR hown1 hown2 hg1 hg2 hv1 hv2 hob hcA hcB hcC hb hcr hfr hcx k1 k2 kA hown0
        go_wp2_with fail
        go_roundw
        case rel => exact ⟨k + 1, .slice A' n' cp', vs ++ [.slice C1 m1 d1], by omega, by go_num, by simpa using hM5, World.cell?_setCell_same _ _ _ hc2', by simp [hf2'], (cell_set_other w2 _ _ _ (by omega)).trans hq0, (frozen_set_other w2 _ _ _ (by omega)).trans hq0f, hb5, by simp; omega⟩
        case measure => simp [intOf]; omega
    · obtain rfl : k = r := by omega
      have hki : ¬ (k : Int) < (k : Int) := by omega
      obtain ⟨B, n, co, rfl⟩ := hM.isSlice
      go_wp2_with fail
      refine bodyPost_ret (v := .agg #[.slice B n co]) (by simp [results, Tryd.results121, go_sem, hcr]) rfl ?_
      have kk := turn_setCell wr (w.heap.size + 1) 0 (.slice B n co)
      have hle : w.heap.size ≤ w.heap.size + 1 := Nat.le_succ _
      refine ⟨_, vs, rfl, (hM.keep kk (by omega)).wider (by omega) (by simp) (by simp), TurnIn.of_below (hb.setCell hle _)⟩
end Go.Proofs.YtbopocpmodpfcaaDoor

/- CodeMatrix: the program's and the model's. -/
namespace G294
open Go Go.RowKit
/-- append(s, x...) of a row of one-cell elements, onto a row of the call's own -/
theorem wpList_appendN {P : Program} {w : World} {ops : Array Oper} {rest : List Oper} {o : Oper} {a : Act} {Q : Exit → Act → World → Prop} (hgd : o.guard = none) (s x : Operand) (t : TypeId)
    (ho : o.op = .call { callee := .builtin .append, args := #[s, x], argTypes := #[t, t] })
    (base : Nat) (e : TypeId) (z : Value) (bytes : Nat) (ht : P.underlying t = some (.slice e)) (hinfo : (P.info? e).map (fun i => (i.zero, i.size, i.bytes)) = some (some z, 1, bytes)) (hzs : z.cells.size = 1)
    (v : Value) (n : Nat) (xs : List Value) (hs : a.eval s = v) (hown : w.ownsRow base e 1 v n xs)
    (A : Addr) (m c : Nat) (ys : List Value) (hx : a.eval x = .slice (some A) m c) (hl : ys.length = m) (hc : ∀ j y, ys[j]? = some y → w.cell? (A.add j) = some y) (h1 : ∀ y, y ∈ ys → y.oneCell' = true)
    (hn : n + m ≤ 1000000000) (hby : bytes ≤ 1000) (hbase : base ≤ w.heap.size)
    (h : ∀ v' w', w'.ownsRow base e 1 v' (n + m) (xs ++ ys) → w.grownBy w' v.ownBlock → (v'.ownBlock = v.ownBlock ∨ v'.ownBlock = some w.heap.size) → wpList P ops Q rest (a.put o.dst v') w') :
    wpList P ops Q (o :: rest) a w := by
  obtain ⟨i, hi, hz, hsz, hbs⟩ := info_parts hinfo
  refine wpList_append_own_at w hgd s x t ho base e i z 1 bytes ht hi hz hsz hbs hzs (by omega) v n xs hs hown A m c ys hx (by omega) hc h1 (by unfold maxLen; omega) ?_ hbase (fun v' w' h2 h3 _ h5 => h v' w' h2 h3 h5)
  have : (n + m) * bytes ≤ 1000000000 * 1000 := Nat.mul_le_mul (by omega) hby
  omega
/-- the rows of two matrices of the call's own, one behind the other -/
theorem OwnM.join {E EE : TypeId} {w w1 : World} {lo hi a b : Nat} {v v' u : Value} {L M : Mat} {vs us : List Value} (h : OwnM E EE w lo hi v L vs) (hu : OwnM E EE w a b u M us) (h1 : hi ≤ a) (h2 : lo ≤ a)
    (ho : w1.ownsRow lo EE 1 v' (L.length + M.length) (vs ++ us)) (hg : w.grownBy w1 v.ownBlock) (hv : v'.ownBlock = v.ownBlock ∨ v'.ownBlock = some w.heap.size) : OwnM E EE w1 lo w1.heap.size v' (L ++ M) (vs ++ us) := by
  have hvl := h.vlen
  have hul := hu.vlen
  have hs := hg.size
  have hob : ∀ g, v.ownBlock = some g → g < hi := h.out
  have ht := h.top
  have key : ∀ (i : Nat) (x : Value), (vs ++ us)[i]? = some x → (i < L.length ∧ vs[i]? = some x) ∨ (L.length ≤ i ∧ us[i - L.length]? = some x) := by
    intro i x hi'
    rcases Nat.lt_or_ge i vs.length with hlt | hge
    · rw [List.getElem?_append_left hlt] at hi'; exact .inl ⟨by omega, hi'⟩
    · rw [List.getElem?_append_right hge, hvl] at hi'
      exact .inr ⟨by omega, hi'⟩
  have low : ∀ (i : Nat) (x : Value) (g : Nat), vs[i]? = some x → x.ownBlock = some g → g < hi := fun i x g e1 e2 => (h.rows i x e1).2.2 g e2
  have high : ∀ (i : Nat) (x : Value) (g : Nat), us[i]? = some x → x.ownBlock = some g → a ≤ g := fun i x g e1 e2 => ((hu.rows i x e1).1.lt g e2).1
  refine ⟨by simpa using ho, Nat.le_refl _, fun g e => (ho.lt g e).2, ?_, ?_⟩
  · intro i x hi'
    rcases key i x hi' with ⟨h3, h4⟩ | ⟨h3, h4⟩
    · have e : (L ++ M).getD i [] = L.getD i [] := by simp [List.getD, List.getElem?_append_left h3]
      rw [e]
      exact ((h.rows i x h4).other hg (fun g e1 e2 => (h.apart i x g h4 e1).1 e2)).wider (Nat.le_refl _) (by omega) (Nat.le_refl _)
    · have e : (L ++ M).getD i [] = M.getD (i - L.length) [] := by simp [List.getD, List.getElem?_append_right h3]
      rw [e]
      exact ((hu.rows _ x h4).other hg (fun g e1 e2 => by have := high _ x g h4 e1; have := hob g e2; omega)).wider h2 (by have := hu.top; omega) (Nat.le_refl _)
  · intro i x g hi' hgx
    have hlt : g < w.heap.size := by
      rcases key i x hi' with ⟨_, h4⟩ | ⟨_, h4⟩
      · exact ((h.rows i x h4).1.lt g hgx).2
      · exact ((hu.rows _ x h4).1.lt g hgx).2
    refine ⟨fun e => ?_, fun j y hj hgy => ?_⟩
    · rcases hv with e2 | e2
      · rw [e2] at e
        rcases key i x hi' with ⟨_, h4⟩ | ⟨_, h4⟩
        · exact (h.apart i x g h4 hgx).1 e
        · have := high _ x g h4 hgx; have := hob g e; omega
      · rw [e2] at e; simp at e; omega
    · rcases key i x hi' with ⟨h3, h4⟩ | ⟨h3, h4⟩ <;> rcases key j y hj with ⟨h5, h6⟩ | ⟨h5, h6⟩
      · exact (h.apart i x g h4 hgx).2 j y h6 hgy
      · have := low i x g h4 hgx; have := high _ y g h6 hgy; omega
      · have := low j y g h6 hgy; have := high _ x g h4 hgx; omega
      · have := (hu.apart _ x g h4 hgx).2 _ y h6 hgy; omega
/-- a store into a block that is none of its own -/
theorem OwnM.other {E EE : TypeId} {w w' : World} {lo hi B : Nat} {v : Value} {L : Mat} {vs : List Value} (h : OwnM E EE w lo hi v L vs) (hg : w.grownBy w' (some B)) (hv : v.ownBlock ≠ some B) (hr : ∀ u ∈ vs, u.ownBlock ≠ some B) : OwnM E EE w' lo hi v L vs :=
  ⟨own_other h.row hg (fun g e e2 => by cases e2; exact hv e), Nat.le_trans h.top hg.size, h.out, fun i u hu => (h.rows i u hu).other hg (fun g e e2 => by cases e2; exact hr u (List.mem_of_getElem? hu) e), h.apart⟩
theorem OwnM.rowBlock {E EE : TypeId} {w : World} {lo hi : Nat} {v : Value} {L : Mat} {vs : List Value} (h : OwnM E EE w lo hi v L vs) : ∀ u ∈ vs, ∀ g, u.ownBlock = some g → lo ≤ g ∧ g < hi := fun u hu g e => by
  obtain ⟨i, hi, rfl⟩ := List.getElem_of_mem hu
  have := h.rows i _ (List.getElem?_eq_getElem hi)
  exact ⟨(this.1.lt g e).1, this.2.2 g e⟩
theorem grown_set {w : World} (B o : Nat) (x : Value) : w.grownBy (w.setCell ⟨B, o, none⟩ x) (some B) := by
  have t := turn_setCell w B o x
  exact ⟨t.os, t.tape, t.output, t.size, fun k hk hne => t.block k hk (by have : k ≠ B := fun e => hne (by rw [e]); omega)⟩
theorem rows_oneC {E EE : TypeId} {w : World} {lo hi : Nat} {v : Value} {L : Mat} {vs : List Value} (h : OwnM E EE w lo hi v L vs) : ∀ y, y ∈ vs → y.oneCell' = true := fun y hy => by
  obtain ⟨i, hi, rfl⟩ := List.getElem_of_mem hy
  obtain ⟨A, n, c, e⟩ := own_isSlice (h.rows i _ (List.getElem?_eq_getElem hi)).1
  rw [e]; rfl
/-- the matrix of a code -/
def codF (k : Nat) : Ents := fun i j => if i < k then idF i j else cauF k (i - k) j
def codM (k m : Nat) : Mat := mkM (k + m) k (codF k)
theorem codM_eq (k m : Nat) : mkM k k idF ++ mkM m k (cauF k) = codM k m := by
  apply List.ext_getElem
  · simp [codM]
  · intro i h1 h2
    rcases Nat.lt_or_ge i k with h | h
    · rw [List.getElem_append_left (by simpa using h)]
      simp only [codM, mkM, List.getElem_map, List.getElem_range]
      exact mkRow_congr fun j _ => by simp [codF, h]
    · rw [List.getElem_append_right (by simpa using h)]
      simp only [codM, mkM, List.getElem_map, List.getElem_range, List.length_map, List.length_range]
      exact mkRow_congr fun j _ => by simp [codF, Nat.not_lt.2 h]
def codR (k m : Int) : Mat := if shapeOk k m then codM k.toNat m.toNat else []
theorem codR_yes {k m : Nat} (h : shapeOk k m = true) : codR k m = codM k m := by unfold codR; rw [if_pos h]; simp
theorem codR_no {k m : Int} (h : shapeOk k m = false) : codR k m = [] := by unfold codR; rw [if_neg (by rw [h]; simp)]
theorem codR_siz (k m : Int) : sizM (codR k m) ≤ 256 := by
  unfold codR; split
  · rename_i h
    have := shapeOk_b h
    exact sizM_side _ (by omega) (by omega)
  · simp [sizM]
end G294
namespace Go.Proofs.YtbopocpmodpfcaaDoor
open Go.RowKit G294

end Go.Proofs.YtbopocpmodpfcaaDoor

/- symmetricRows and MessageOf, the program's. -/
namespace G294
open Go Go.RowKit
/-- a grid of the call's own, filled in place -/
structure Grid (E EE : TypeId) (w wr : World) (hi : Nat) (v : Value) (L : Mat) (vs : List Value) : Prop where
  own : OwnM E EE wr w.heap.size hi v L vs
  old : Below w.heap.size w wr
theorem Grid.congr {E EE : TypeId} {w wr : World} {hi : Nat} {v : Value} {L L' : Mat} {vs : List Value} (h : Grid E EE w wr hi v L vs) (e : L = L') : Grid E EE w wr hi v L' vs := e ▸ h
theorem Grid.drewN {E EE : TypeId} {w wr : World} {hi : Nat} {v : Value} {L : Mat} {vs : List Value} (h : Grid E EE w wr hi v L vs) (q : Nat) : Grid E EE w (wr.drewN q) hi v L vs := ⟨h.own.drewN q, below_drewN h.old q⟩
theorem Grid.storeF {E EE : TypeId} {w wr : World} {hi r c k j bb m cap' : Nat} {F : Ents} {x : UInt8} {v : Value} {vs : List Value} (h : Grid E EE w wr hi v (mkM r c F) vs) (hk : k < r) (hu : vs[k]? = some (.slice (some ⟨bb, 0, none⟩) m cap')) :
    Grid E EE w (wr.setCell ⟨bb, j, none⟩ (.int .u8 (x.toNat : Int))) hi v (mkM r c fun i jj => if i = k ∧ jj = j then x else F i jj) vs := by
  have ho := h.own.rows k _ hu
  have h1 := (ho.1.lt bb rfl).1
  exact ⟨h.own.storeF hk hu, h.old.setCell (show w.heap.size ≤ bb by omega) _⟩
def msgOk (n k : Int) (l : List UInt8) : Bool := msrOk n k && decide ((l.length : Int) = k * (k - 1))
def msgR (n k : Int) (l : List UInt8) : Mat := if msgOk n k l = true then msgM (k - 1).toNat l else []
theorem msgR_no {n k : Int} {l : List UInt8} (h : msgOk n k l = false) : msgR n k l = [] := if_neg (by rw [h]; simp)
theorem msgR_yes {n : Int} {a : Nat} {l : List UInt8} (h : msgOk n ((a : Int) + 1) l = true) : msgR n ((a : Int) + 1) l = msgM a l := by unfold msgR; rw [if_pos h]; congr 1; omega
theorem msgR_siz (n k : Int) (l : List UInt8) : sizM (msgR n k l) ≤ 256 := by
  unfold msgR; split
  · rename_i h
    simp only [msgOk, Bool.and_eq_true] at h
    have := msrOk_b h.1
    exact sizM_side _ (by omega) (by omega)
  · simp [sizM]
/-- a code that is valid: K is one more than alpha -/
theorem msr_alpha {n k : Int} (h : msrOk n k = true) : ∃ a : Nat, k = (a : Int) + 1 ∧ 1 ≤ a ∧ a ≤ 3 ∧ 2 * (a : Int) + 1 ≤ n ∧ n ≤ 14 ∧ msrA n k = (a : Int) ∧ msrD n k = ((2 * a : Nat) : Int) ∧ msrB n k = ((2 * off a a : Nat) : Int) ∧ k * (k - 1) = ((2 * off a a : Nat) : Int) := by
  have hb := msrOk_b h
  have h1 := msrA_yes h
  have h2 := msrD_yes h
  have h3 := msrB_yes h
  rcases msrOk_k h with rfl | rfl | rfl
  · exact ⟨1, rfl, by omega, by omega, by omega, by omega, h1, h2, h3, rfl⟩
  · exact ⟨2, rfl, by omega, by omega, by omega, by omega, h1, h2, h3, rfl⟩
  · exact ⟨3, rfl, by omega, by omega, by omega, by omega, h1, h2, h3, rfl⟩
theorem off_half {a : Nat} (h1 : 1 ≤ a) (h2 : a ≤ 3) : 1 ≤ off a a ∧ off a a ≤ 6 := by
  have : a = 1 ∨ a = 2 ∨ a = 3 := by omega
  rcases this with rfl | rfl | rfl <;> exact ⟨by decide, by decide⟩
theorem Seen.front {w : World} {b o n c h : Nat} {xs : List Value} (hv : Seen w (.slice (some ⟨b, o, none⟩) n c) xs) (hh : h ≤ xs.length) : Seen w (.slice (some ⟨b, o, none⟩) h c) (xs.take h) := by
  obtain ⟨A, c', e, h1, h2, h3⟩ := hv
  simp only [Value.slice.injEq] at e
  obtain ⟨rfl, rfl, rfl⟩ := e
  refine ⟨some ⟨b, o, none⟩, c, by simp [Nat.min_eq_left hh], by simp; omega, h2, fun hp => ?_⟩
  simp only [List.length_take] at hp
  obtain ⟨b', o', e, hb, hc⟩ := h3 (by omega)
  refine ⟨b', o', e, hb, fun i x hx => hc i x ?_⟩
  rw [List.getElem?_take] at hx
  split at hx
  · exact hx
  · cases hx
theorem Seen.back {w : World} {b o n c h : Nat} {xs : List Value} (hv : Seen w (.slice (some ⟨b, o, none⟩) n c) xs) (hh : h < xs.length) : Seen w (.slice (some ⟨b, o + h, none⟩) (n - h) (c - h)) (xs.drop h) := by
  obtain ⟨A, c', e, h1, h2, h3⟩ := hv
  simp only [Value.slice.injEq] at e
  obtain ⟨rfl, rfl, rfl⟩ := e
  obtain ⟨b', o', e, hb, hc⟩ := h3 (by omega)
  simp only [Option.some.injEq, Addr.mk.injEq, and_true] at e
  obtain ⟨rfl, rfl⟩ := e
  refine ⟨some ⟨b, o + h, none⟩, c - h, by simp, by simp; omega, by omega, fun hp => ⟨b, o + h, rfl, hb, fun i x hx => ?_⟩⟩
  rw [List.getElem?_drop] at hx
  have := hc _ x hx
  rwa [← Nat.add_assoc] at this
end G294
namespace Go.Proofs.YtbopocpmodpfcaaDoor
open Go.RowKit G294

end Go.Proofs.YtbopocpmodpfcaaDoor

/- The contracts of the products, on bytes. -/
namespace Go.Proofs.YtbopocpmodpfcaaDoor
open Go.RowKit G294

theorem times_u8 (a b : UInt8) (w : World) (ht : Tab w) :
    Calls Tryd.prog 114 #[.int .u8 (a.toNat : Int), .int .u8 (b.toNat : Int)] w fun e w' => e = .returned (.int .u8 ((gmul a b).toNat : Int)) ∧ w = w' := by
  rw [gmul_toNat]; exact times_any _ _ a.toNat_lt b.toNat_lt w ht

theorem l1Times_u8 (a b : UInt8) (w : World) :
    Calls Tryd.prog 96 #[.int .u8 (a.toNat : Int), .int .u8 (b.toNat : Int)] w fun e w' => e = .returned (.int .u8 ((gmul a b).toNat : Int)) ∧ w = w' := by
  rw [gmul_toNat]; exact l1Times_any _ _ a.toNat_lt b.toNat_lt w

end Go.Proofs.YtbopocpmodpfcaaDoor
