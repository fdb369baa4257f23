/- The model's identity, Vandermonde and Cauchy matrices. -/
import Derived.Test.YtfglkgeeelapgaaDoorSpecBlank
set_option linter.unusedSimpArgs false
set_option linter.unusedVariables false
namespace G294
open Go Go.RowKit
/-- what a function that fills a matrix keeps: its rows, the variable that holds them, the variable of its result, and old memory -/
structure Fill (E EE : TypeId) (w wr : World) (B : Nat) (v : Value) (L : Mat) (vs : List Value) : Prop where
  own : OwnM E EE wr (w.heap.size + 1) B v L vs
  var : wr.cell? ⟨B, 0, none⟩ = some v
  res : wr.cell? ⟨w.heap.size, 0, none⟩ = some (.slice none 0 0)
  resf : wr.frozen? ⟨w.heap.size, 0, none⟩ = false
  old : Below w.heap.size w wr
  size : B < wr.heap.size
  lo : w.heap.size < B
theorem Fill.drewN {E EE : TypeId} {w wr : World} {B : Nat} {v : Value} {L : Mat} {vs : List Value} (h : Fill E EE w wr B v L vs) (q : Nat) : Fill E EE w (wr.drewN q) B v L vs :=
  ⟨h.own.drewN q, h.var, h.res, h.resf, below_drewN h.old q, h.size, h.lo⟩
theorem Fill.congr {E EE : TypeId} {w wr : World} {B : Nat} {v : Value} {L L' : Mat} {vs : List Value} (h : Fill E EE w wr B v L vs) (e : L = L') : Fill E EE w wr B v L' vs := e ▸ h
theorem Fill.storeF {E EE : TypeId} {w wr : World} {B r c k j bb m cap' : Nat} {F : Ents} {x : UInt8} {v : Value} {vs : List Value} (h : Fill E EE w wr B v (mkM r c F) vs) (hk : k < r) (hu : vs[k]? = some (.slice (some ⟨bb, 0, none⟩) m cap')) :
    Fill E EE w (wr.setCell ⟨bb, j, none⟩ (.int .u8 (x.toNat : Int))) B v (mkM r c fun i jj => if i = k ∧ jj = j then x else F i jj) vs := by
  have ho := h.own.rows k _ hu
  have h1 := (ho.1.lt bb rfl).1
  have h2 := ho.2.2 bb rfl
  have hlo := h.lo
  exact ⟨h.own.storeF hk hu, (cell_set_other wr _ _ _ (by omega)).trans h.var, (cell_set_other wr _ _ _ (by omega)).trans h.res, (frozen_set_other wr _ _ _ (by omega)).trans h.resf, h.old.setCell (show w.heap.size ≤ bb by omega) _, by simpa using h.size, hlo⟩
theorem Fill.start {E EE : TypeId} {w w1 w2 : World} {v : Value} {L : Mat} {vs : List Value} {t : TypeId} (hw2 : w2 = w1.alloc (.cells #[v] t)) (hM : OwnM E EE w1 (w.heap.size + 1) w1.heap.size v L vs) (hc : w1.cell? ⟨w.heap.size, 0, none⟩ = some (.slice none 0 0)) (hf : w1.frozen? ⟨w.heap.size, 0, none⟩ = false)
    (hb : Below w.heap.size w w1) (hs : w.heap.size + 1 ≤ w1.heap.size) : Fill E EE w w2 w1.heap.size v L vs := by
  subst hw2
  have kA : TurnIn 0 0 w1 (w1.alloc (.cells #[v] t)) := TurnIn.of_below ((Below.refl _ _).alloc (Nat.le_refl _) _)
  exact ⟨hM.keep kA (by omega), by simp, cell_turn kA hc (by omega), frozen_turn kA hf (by omega), hb.alloc (by omega) _, by simp, by omega⟩
/-- the rows are stored into the result -/
theorem Fill.finish {E EE : TypeId} {w wr : World} {B : Nat} {v : Value} {L : Mat} {vs : List Value} (h : Fill E EE w wr B v L vs) :
    RetMat E EE w L (.returned (.agg #[v])) (wr.setCell ⟨w.heap.size, 0, none⟩ v) := by
  have kk := turn_setCell wr w.heap.size 0 v
  have hs := h.size
  exact ⟨v, vs, rfl, (h.own.keep kk (by omega)).wider (by omega) (by simp; omega) (by simp), TurnIn.of_below (h.old.setCell (Nat.le_refl _) _)⟩
end G294
namespace Go.Proofs.YtfglkgeeelapgaaDoor
open Go.RowKit G294

set_option maxRecDepth 100000 in
set_option maxHeartbeats 2000000 in
theorem l2Identity_own (n : Nat) (w : World) (h1 : 1 ≤ n) (hn : n ≤ 1000) : Calls Tryd.prog 119 #[.int .i64 n] w (RetMat 5 22 w (mkM n n idF)) := by
  have hb0 : Below w.heap.size w (w.alloc (.cells #[.slice none 0 0] 39)) := (Below.refl _ _).alloc (Nat.le_refl _) _
  go_enter Tryd.func119, Tryd.ntmps119
  go_wp2_with fail
  refine (l2Blank_own n n _ hn hn).mono ?_
  rintro e w1 ⟨v, vs, rfl, hM, ht⟩
  obtain ⟨g, cp, rfl, hg1, hg2, hg3, hg4⟩ := hM.sliceF h1
  have hc0 := cell_turn ht (B := w.heap.size) (o := 0) (x := .slice none 0 0) (by simp) (by simp)
  have hf0 := frozen_turn ht (B := w.heap.size) (o := 0) (x := false) (by simp) (by simp)
  have hb1 := ht.base hb0 (by simp) (by omega)
  have hs1 := ht.size
  rw [World.size_alloc] at hs1 hM hg1
  have hF := Fill.start (t := 39) rfl (hM.congr (L' := mkM n n fun i j => if i = j ∧ i < 0 then 1 else 0) (mkM_congr fun i j _ _ => by simp)) hc0 hf0 hb1 hs1
  have HF0 := Lib.hid hF
  clear hM ht hb0 hb1 hc0 hf0 hF
  unfold maxLen at hg4
  have hcB : (w1.alloc (.cells #[.slice (some ⟨g, 0, none⟩) n cp] 39)).cell? ⟨w1.heap.size, 0, none⟩ = some (.slice (some ⟨g, 0, none⟩) n cp) := by simp
  go_wp2_with fail
  generalize w1.alloc (.cells #[.slice (some ⟨g, 0, none⟩) n cp] 39) = w2 at *
  generalize w1.heap.size = B at *
  go_loopw [11] (fun i wr => ∃ k : Nat, k ≤ n ∧ i = .int .i64 k ∧ Hid (Fill 5 22 w wr B (.slice (some ⟨g, 0, none⟩) n cp) (mkM n n fun i j => if i = j ∧ i < k then 1 else 0) vs))
    (fun i _ => n - (intOf i).toNat)
  case atStart => exact ⟨0, Nat.zero_le _, rfl, HF0.out⟩
  case round =>
    obtain ⟨k, hk, rfl, HF⟩ := hrel
    have hvar := HF.out.var
    clear hcB
    by_cases hlt : k < n
    · have hki : (k : Int) < (n : Int) := by omega
      obtain ⟨bb, cp2, hu, e1, e2, e3, e4, e5, hfz, hcell⟩ := HF.out.own.rowF k hlt (by omega)
      have hco := HF.out.own.cellAt hu
      have hcx := hcell k hlt
      have hfr := hfz k
      unfold maxLen at e5
      have HF2 := Lib.hid ((HF.out.storeF (j := k) (x := 1) hlt hu).congr (L' := mkM n n fun i j => if i = j ∧ i < k + 1 then 1 else 0) (mkM_congr fun i j _ _ => by
        by_cases a1 : i = k
        · subst a1
          by_cases a2 : j = i
          · subst a2; simp
          · have a3 : ¬ i = j := fun e => a2 e.symm
            simp [a2, a3]
        · by_cases a2 : i = j
          · subst a2
            by_cases a3 : i < k
            · simp [a1, a3]; omega
            · simp [a1, a3]; omega
          · simp [a1, a2]))
      clear hcell hfz hu e3
      go_wp2_with fail
      go_roundw
      case rel => exact ⟨k + 1, by omega, by go_num, HF2.out⟩
      case measure => simp [intOf]; omega
    · obtain rfl : k = n := by omega
      have hki : ¬ (k : Int) < (k : Int) := by omega
      have hc0 := HF.out.res
      have hf0 := HF.out.resf
      go_wp2_with fail
      refine bodyPost_ret (v := .agg #[.slice (some ⟨g, 0, none⟩) k cp]) (by simp [results, Tryd.results119, go_sem, hc0]) rfl ?_
      exact (HF.out.congr (L' := mkM k k idF) (mkM_congr fun i j hi _ => by simp [idF, hi])).finish

end Go.Proofs.YtfglkgeeelapgaaDoor
