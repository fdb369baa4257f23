/- Joined texts: Rebuild, SpecCheck. -/
import Derived.Test.YtbfchebnooanjaaDoorBd20
set_option linter.unusedSimpArgs false
set_option linter.unusedVariables false
/- RebuildShard, the program's. -/
namespace G294
open Go Go.RowKit
/-- three new blocks -/
theorem three (w : World) (a b c : Obj) : (((w.alloc a).alloc b).alloc c).heap[w.heap.size]? = some a ∧ (((w.alloc a).alloc b).alloc c).heap[w.heap.size + 1]? = some b ∧ (((w.alloc a).alloc b).alloc c).heap[w.heap.size + 1 + 1]? = some c ∧ (((w.alloc a).alloc b).alloc c).heap.size = w.heap.size + 3 ∧ TurnIn 0 0 w (((w.alloc a).alloc b).alloc c) := by
  refine ⟨?_, ?_, ?_, by simp, turn_trans (turn_trans (turn_alloc _ _) (turn_alloc _ _) (by omega)) (turn_alloc _ _) (by omega)⟩
  · exact (Below.heap_alloc _ _ _ (by simp; omega)).trans ((Below.heap_alloc _ _ _ (by simp)).trans (World.alloc_heap_new w a))
  · have := World.alloc_heap_new (w.alloc a) b
    rw [World.size_alloc] at this
    exact (Below.heap_alloc _ _ _ (by simp)).trans this
  · have := World.alloc_heap_new ((w.alloc a).alloc b) c
    rw [World.size_alloc, World.size_alloc] at this
    exact this
theorem alloc_pair0 (w : World) (x y : Value) (T : TypeId) : (w.alloc (.cells #[x, y] T)).cell? ⟨w.heap.size, 0, none⟩ = some x := by simp
theorem alloc_pair1 (w : World) (x y : Value) (T : TypeId) : (w.alloc (.cells #[x, y] T)).cell? ⟨w.heap.size, 1, none⟩ = some y := by simp
theorem cell_of_heap {w : World} {B o : Nat} {cs : Array Value} {T : TypeId} {fr : Nat × Nat} {v : Value} (h : w.heap[B]? = some (.cells cs T fr)) (hv : cs[o]? = some v) : w.cell? ⟨B, o, none⟩ = some v := by
  simp [World.cell?, h, hv]
theorem frozen_of_heap {w : World} {B : Nat} {cs : Array Value} {T : TypeId} (o : Nat) (h : w.heap[B]? = some (.cells cs T (0, 0))) : w.frozen? ⟨B, o, none⟩ = false := by
  simp [World.frozen?, h]
theorem set3 {W : World} {b b' : Nat} {x y z x0 y0 z0 : Value} (hne : b ≠ b') (c0 : W.cell? ⟨b, 0, none⟩ = some x0) (c1 : W.cell? ⟨b, 1, none⟩ = some y0) (c2 : W.cell? ⟨b', 0, none⟩ = some z0) :
    (((W.setCell ⟨b, 0, none⟩ x).setCell ⟨b, 1, none⟩ y).setCell ⟨b', 0, none⟩ z).cell? ⟨b, 0, none⟩ = some x ∧ (((W.setCell ⟨b, 0, none⟩ x).setCell ⟨b, 1, none⟩ y).setCell ⟨b', 0, none⟩ z).cell? ⟨b, 1, none⟩ = some y ∧ (((W.setCell ⟨b, 0, none⟩ x).setCell ⟨b, 1, none⟩ y).setCell ⟨b', 0, none⟩ z).cell? ⟨b', 0, none⟩ = some z := by
  have n1 : (⟨b', 0, none⟩ : Addr) ≠ ⟨b, 0, none⟩ := fun e => hne (by simpa using e.symm)
  have n2 : (⟨b', 0, none⟩ : Addr) ≠ ⟨b, 1, none⟩ := fun e => by simp at e
  have n3 : (⟨b, 1, none⟩ : Addr) ≠ ⟨b, 0, none⟩ := fun e => by simp at e
  have d0 : (W.setCell ⟨b, 0, none⟩ x).cell? ⟨b, 0, none⟩ = some x := World.cell?_setCell_same _ _ _ c0
  have d1 : (W.setCell ⟨b, 0, none⟩ x).cell? ⟨b, 1, none⟩ = some y0 := (World.cell?_setCell_other _ _ _ _ n3.symm).trans c1
  have d2 : (W.setCell ⟨b, 0, none⟩ x).cell? ⟨b', 0, none⟩ = some z0 := (World.cell?_setCell_other _ _ _ _ n1.symm).trans c2
  refine ⟨?_, ?_, ?_⟩
  · exact (World.cell?_setCell_other _ _ _ _ n1).trans ((World.cell?_setCell_other _ _ _ _ n3).trans d0)
  · exact (World.cell?_setCell_other _ _ _ _ n2).trans (World.cell?_setCell_same _ _ _ d1)
  · exact World.cell?_setCell_same _ _ _ ((World.cell?_setCell_other _ _ _ _ n2.symm).trans d2)
theorem rebOk_in {l : List Sh} {p q : Nat} {no : Int} (hd : decOk l p q = true) (hne : ∀ x ∈ shardsF (p + q) p (lenH l) (codF p) (decR l p q), x.1 ≠ no) : rebOk l p q no = false := by
  unfold rebOk
  rw [hd, Bool.true_and, decide_eq_false_iff_not]
  rintro ⟨h1, h2⟩
  obtain ⟨t, rfl⟩ := Int.eq_ofNat_of_zero_le h1
  exact hne ((t : Int), comb p (lenH l) (codF p t) (decR l p q)) (by simp only [shardsF, List.mem_map, List.mem_range]; exact ⟨t, by omega, rfl⟩) rfl
theorem rebOk_at {l : List Sh} {p q : Nat} {no : Int} {pre : List Sh} {x : Sh} (hd : decOk l p q = true) (hp : pre ++ [x] <+: shardsF (p + q) p (lenH l) (codF p) (decR l p q)) (hx : x.1 = no) : rebOk l p q no = true ∧ rebR l p q no = x := by
  obtain ⟨t, ht⟩ := hp
  have hl : pre.length < p + q := by
    have := congrArg List.length ht
    simp at this; omega
  have hg : (shardsF (p + q) p (lenH l) (codF p) (decR l p q))[pre.length]? = some x := by rw [← ht]; simp
  have hg2 : (shardsF (p + q) p (lenH l) (codF p) (decR l p q))[pre.length]? = some ((pre.length : Int), comb p (lenH l) (codF p pre.length) (decR l p q)) := by simp [shardsF, hl]
  have e := Option.some.inj (hg.symm.trans hg2)
  subst hx
  have hn : x.1 = (pre.length : Int) := by rw [e]
  have hok : rebOk l p q x.1 = true := by
    unfold rebOk
    rw [hd, Bool.true_and, decide_eq_true_eq]
    omega
  refine ⟨hok, ?_⟩
  rw [rebR_yes hok, hn, Int.toNat_natCast]
  exact e.symm
end G294
namespace Go.Proofs.YtbfchebnooanjaaDoor
open Go.RowKit Go.Shelf G294

attribute [local go_sem] Oper.semAt_some

set_option maxRecDepth 100000 in
set_option maxHeartbeats 2000000 in
theorem rebuildShard_no (v : Value) (l : List Sh) (k m no : Int) (w : World) (hv : SeenH w v l) (hln : l.length ≤ 1048576) (ht : Tab w) (h0 : 0 < w.heap.size) (hd : decOk l k m = false) :
    Calls Tryd.prog 6 #[v, .int .i64 k, .int .i64 m, .int .i64 no] w (RetShOk w (rebR l k m no) (rebOk l k m no)) := by
  have HV := Lib.hid hv
  have HTB := Lib.hid ht
  have HD := Lib.hid hd
  obtain ⟨A, cp, rfl⟩ := hv.len
  have hok : rebOk l k m no = false := by unfold rebOk; rw [hd]; simp
  have HO := Lib.hid hok
  have HR := Lib.hid (rebR_no hok)
  clear hv ht hd hok
  obtain ⟨g0, g1, g2, z1, a1⟩ := three w (.cells #[.int .i64 no] 3) (.cells #[.int .i64 0, .string ⟨#[]⟩] 27) (.cells #[.bool false] 4)
  have c0 := cell_of_heap (o := 0) (v := .int .i64 0) g1 rfl
  have c1 := cell_of_heap (o := 1) (v := .string ⟨#[]⟩) g1 rfl
  have c2 := cell_of_heap (o := 0) (v := .bool false) g2 rfl
  have f0 := frozen_of_heap 0 g1
  have f1 := frozen_of_heap 1 g1
  have f2 := frozen_of_heap 0 g2
  clear g0 g1 g2
  go_enter Tryd.func6, Tryd.ntmps6
  go_wp2_with fail
  generalize (((w.alloc (.cells #[.int .i64 no] 3)).alloc (.cells #[.int .i64 0, .string ⟨#[]⟩] 27)).alloc (.cells #[.bool false] 4)) = wa at *
  refine (remade_no _ l k m _ (HV.out.below a1.to_below) hln (HTB.out.below a1.to_below h0) (by omega) HD.out).mono ?_
  rintro e w1 ⟨rfl, k1⟩
  have d0 := cell_turn k1 c0 (by omega)
  have d1 := cell_turn k1 c1 (by omega)
  have d2 := cell_turn k1 c2 (by omega)
  have e0 := frozen_turn k1 f0 (by omega)
  have e1 := frozen_turn k1 f1 (by omega)
  have e2 := frozen_turn k1 f2 (by omega)
  have KF := Lib.hid (turn_trans a1 k1 (by omega))
  clear k1 c0 c1 c2 f0 f1 f2 z1
  go_wp2_with fail
  refine bodyPost_ret (v := .tuple #[.agg #[.int .i64 0, .string ⟨#[]⟩], .bool false]) (by simp [results, Tryd.results6, go_sem, d0, d1, d2]) rfl ?_
  refine ⟨by rw [HR.out, HO.out]; rfl, TurnIn.of_below ?_⟩
  exact (((KF.out.to_below.setCell (p := ⟨w.heap.size + 1, 0, none⟩) (Nat.le_succ _) _).setCell (p := ⟨w.heap.size + 1, 1, none⟩) (Nat.le_succ _) _).setCell (p := ⟨w.heap.size + 1 + 1, 0, none⟩) (show w.heap.size ≤ w.heap.size + 1 + 1 by omega) _)

set_option maxRecDepth 100000 in
set_option maxHeartbeats 4000000 in
theorem rebuildShard_yes (v : Value) (l : List Sh) (p q : Nat) (no : Int) (w : World) (hv : SeenH w v l) (hln : l.length ≤ 1048576) (ht : Tab w) (h0 : 0 < w.heap.size) (hd : decOk l p q = true) :
    Calls Tryd.prog 6 #[v, .int .i64 p, .int .i64 q, .int .i64 no] w (RetShOk w (rebR l p q no) (rebOk l p q no)) := by
  have HV := Lib.hid hv
  have HTB := Lib.hid ht
  have HD := Lib.hid hd
  obtain ⟨A, cp, rfl⟩ := hv.len
  have hbs := shapeOk_b (decOk_shape hd)
  have h40 := shards_40 (decOk_shards hd)
  have HDL := Lib.hid (decR_length hd)
  have HDR := Lib.hid (decR_row hd)
  clear hv ht hd
  obtain ⟨g0, g1, g2, z1, a1⟩ := three w (.cells #[.int .i64 no] 3) (.cells #[.int .i64 0, .string ⟨#[]⟩] 27) (.cells #[.bool false] 4)
  have c7 := cell_of_heap (o := 0) (v := .int .i64 no) g0 rfl
  have c0 := cell_of_heap (o := 0) (v := .int .i64 0) g1 rfl
  have c1 := cell_of_heap (o := 1) (v := .string ⟨#[]⟩) g1 rfl
  have c2 := cell_of_heap (o := 0) (v := .bool false) g2 rfl
  have f0 := frozen_of_heap 0 g1
  have f1 := frozen_of_heap 1 g1
  have f2 := frozen_of_heap 0 g2
  clear g0 g1 g2
  refine (callsIn_wide (n := 5)).1 ?_
  refine callsIn_of_wp_marks Tryd.func6 rfl trivial ?_ rfl
  simp only [Tryd.ntmps6, List.size_toArray, List.length_cons, List.length_nil, Nat.reduceAdd, Nat.reduceSub, Array.replicate_succ, Array.replicate_zero, List.push_toArray, List.append_toArray, List.nil_append, List.cons_append]
  refine wpIn_wide.2 ?_
  go_wp2_with fail
  generalize (((w.alloc (.cells #[.int .i64 no] 3)).alloc (.cells #[.int .i64 0, .string ⟨#[]⟩] 27)).alloc (.cells #[.bool false] 4)) = wa at *
  refine (remade_yes _ l p q _ (HV.out.below a1.to_below) hln (HTB.out.below a1.to_below h0) (by omega) HD.out).mono ?_
  rintro e w1 ⟨s, rfl, Bm, Bt, Am, nm, cm, At, nt, ct, vsm, rfl, bM, bT, hBm, hBt, oM, oT, k1⟩
  have hs1 := k1.size
  replace c7 := cell_turn k1 c7 (by omega)
  replace c0 := cell_turn k1 c0 (by omega)
  replace c1 := cell_turn k1 c1 (by omega)
  replace c2 := cell_turn k1 c2 (by omega)
  replace f0 := frozen_turn k1 f0 (by omega)
  replace f1 := frozen_turn k1 f1 (by omega)
  replace f2 := frozen_turn k1 f2 (by omega)
  have HB1 := Lib.hid (k1.base a1.to_below a1.size (by omega))
  have HOM := Lib.hid oM.seen
  have HOT := Lib.hid oT.seen
  have hl1 : w.heap.size + 3 ≤ w1.heap.size := by omega
  have HBM := Lib.hid bM
  have HBT := Lib.hid bT
  have HTW : Hid (∀ W, Below w1.heap.size w1 W → Tab W ∧ 0 < W.heap.size) := fun W h => ⟨(HTB.out.below HB1.out h0).below h (by omega), by have := h.size; omega⟩
  clear oM oT k1 a1 z1 bM bT
  go_wp2_with fail
  refine (wpIn_wide (n := 5)).1 ?_
  refine wpIn_rangeFunc_ownH rfl (by omega) (gf := 83) (lb := #[.pointer (some ⟨Bm, 0, none⟩), .pointer (some ⟨Bt, 0, none⟩)]) rfl trivial (enters_of Tryd.func83 (by kernel_rfl) rfl)
    (shardsBy_stops _ (p + q) p (lenH l) Bm Bt (codF p) (decR l p q) (.slice Am nm cm) (.slice At nt ct) w1 (Below w1.heap.size) (Below w1.heap.size w1) HDL.out (by omega) (by omega) (by omega) HDR.out (by omega)
      (fun W hW => ⟨⟨(hW.cell (p := ⟨Bm, 0, none⟩) HBM.out.lt).trans HBM.out.cell, (hW.cell (p := ⟨Bt, 0, none⟩) HBT.out.lt).trans HBT.out.cell⟩, ⟨HOM.out.below hW, HOT.out.below hW⟩, HTW.out W hW⟩)
      (fun W W' h h' => h.trans h') (fun W W' h h' => h.trans (h'.mono h.size)) (fun W h => h) (by omega))
    (fun h h' => h.trans h') (belowK_b (Nat.le_refl _)) (Below.refl _ _) (fun _ => rfl)
    (fun pre W => Below w1.heap.size w1 W ∧ ∀ x ∈ pre, x.1 ≠ no)
    (fun c pre W => (c = Code.ret ∧ ∃ pre0 x, pre = pre0 ++ [x] ∧ x.1 = no ∧ W.cell? ⟨w.heap.size + 1, 0, none⟩ = some (.int .i64 x.1) ∧ W.cell? ⟨w.heap.size + 1, 1, none⟩ = some (.string (str x.2)) ∧ W.cell? ⟨w.heap.size + 1 + 1, 0, none⟩ = some (.bool true)) ∧ Below w.heap.size w W)
    (OwnFrom.and (ownFrom_below (Nat.le_refl _) (Nat.le_refl _)) (ownFrom_pure _ _))
    (fun c => OwnFrom.and (fun s A B row hs hg hr => by
      obtain ⟨hc, pre0, x, e1, e2, e3, e4, e5⟩ := hs
      exact ⟨hc, pre0, x, e1, e2, cell_kept e3 hg (fun r e => (hr r e).2), cell_kept e4 hg (fun r e => (hr r e).2), cell_kept e5 hg (fun r e => (hr r e).2)⟩) (ownFrom_below (Nat.le_refl _) (by omega)))
    ⟨Below.refl _ _, fun x hx => by simp at hx⟩
    (fun x a' W => ∃ Bx, w1.heap.size ≤ Bx ∧ W.heap[Bx]? = some (.cells #[.int .i64 x.1, .string (str x.2)] 27 (0, 0)) ∧ a' = { tmps := #[.slice A l.length cp, .int .i64 p, .int .i64 q, .int .i64 no,
      undef, undef, undef, .pointer (some ⟨w.heap.size, 0, none⟩), .pointer (some ⟨w.heap.size + 1, 0, none⟩), .pointer (some ⟨w.heap.size + 1 + 1, 0, none⟩),
      .func (.func 83) #[] #[.pointer (some ⟨Bm, 0, none⟩), .pointer (some ⟨Bt, 0, none⟩)], .bool true, .pointer (some ⟨Bx, 0, none⟩), .tuple #[.func (.func 83) #[] #[.pointer (some ⟨Bm, 0, none⟩), .pointer (some ⟨Bt, 0, none⟩)], .bool true],
      .slice A l.length cp, .int .i64 p, .int .i64 q, .tuple #[.func (.func 83) #[] #[.pointer (some ⟨Bm, 0, none⟩), .pointer (some ⟨Bt, 0, none⟩)], .bool true], .func (.func 83) #[] #[.pointer (some ⟨Bm, 0, none⟩), .pointer (some ⟨Bt, 0, none⟩)], .bool true, .bool true, .bool false, undef,
      .func (.func 83) #[] #[.pointer (some ⟨Bm, 0, none⟩), .pointer (some ⟨Bt, 0, none⟩)], shV x, undef, undef, undef, undef, undef, undef], defers := [] })
    (fun x a' _ X Y row hs hg hr => by
      obtain ⟨Bx, e1, e2, e3⟩ := hs
      refine ⟨Bx, e1, ?_, e3⟩
      rw [hg.block Bx (Array.getElem?_eq_some_iff.1 e2).1 (fun e => by
        obtain ⟨o, ho, hoc⟩ := (hr Bx e.symm).2
        rw [e2] at ho
        cases ho
        simp [Obj.isCells] at hoc)]
      exact e2)
    ?assign ?body ?done ?stop
  case assign =>
    rintro ll pre x W K ⟨hBw, hne⟩ hK
    simp only [shV]
    gi_wp2_with fail
    exact hK _ _ ((KeepsOthers.alloc _ _).from _) ((Below.refl _ W).alloc hBw.size _) ⟨hBw.alloc hBw.size _, hne⟩ ⟨W.heap.size, hBw.size, World.alloc_heap_new W _, rfl⟩
  case body =>
    rintro ll pre x a' W hl ⟨rr, hr⟩ ⟨hBw, hne⟩ ⟨Bx, hBx, hX, rfl⟩ hlt
    obtain ⟨xn, sx⟩ := x
    have cX0 := cell_of_heap (o := 0) (v := .int .i64 xn) hX rfl
    have cX1 := cell_of_heap (o := 1) (v := .string (str sx)) hX rfl
    replace c7 := (hBw.cell (p := ⟨w.heap.size, 0, none⟩) (show w.heap.size < w1.heap.size by omega)).trans c7
    replace c0 := (hBw.cell (p := ⟨w.heap.size + 1, 0, none⟩) (show w.heap.size + 1 < w1.heap.size by omega)).trans c0
    replace c1 := (hBw.cell (p := ⟨w.heap.size + 1, 1, none⟩) (show w.heap.size + 1 < w1.heap.size by omega)).trans c1
    replace c2 := (hBw.cell (p := ⟨w.heap.size + 1 + 1, 0, none⟩) (show w.heap.size + 1 + 1 < w1.heap.size by omega)).trans c2
    replace f0 := (hBw.frozen (p := ⟨w.heap.size + 1, 0, none⟩) (show w.heap.size + 1 < w1.heap.size by omega)).trans f0
    replace f1 := (hBw.frozen (p := ⟨w.heap.size + 1, 1, none⟩) (show w.heap.size + 1 < w1.heap.size by omega)).trans f1
    replace f2 := (hBw.frozen (p := ⟨w.heap.size + 1 + 1, 0, none⟩) (show w.heap.size + 1 + 1 < w1.heap.size by omega)).trans f2
    have HNE := Lib.hid hne
    have HBW := Lib.hid hBw
    have HBE : Hid (Below w.heap.size w W) := HB1.out.trans (hBw.mono (by omega))
    simp only [shV]
    clear hX hne hr
    by_cases hxn : xn = no
    · have hb : (xn == no) = true := by simpa using hxn
      have HXN := Lib.hid hxn
      clear hxn
      gi_wp2_with fail
      refine ⟨(((KeepsOthers.setCell _ _ _).trans (KeepsOthers.setCell _ _ _)).trans (KeepsOthers.setCell _ _ _)).from _, ⟨rfl, pre, (xn, sx), rfl, HXN.out, set3 (by omega) c0 c1 c2⟩, ?_⟩
      · exact (((HBE.out.setCell (p := ⟨w.heap.size + 1, 0, none⟩) (Nat.le_succ _) _).setCell (p := ⟨w.heap.size + 1, 1, none⟩) (Nat.le_succ _) _).setCell (p := ⟨w.heap.size + 1 + 1, 0, none⟩) (show w.heap.size ≤ w.heap.size + 1 + 1 by omega) _)
    · have hb : (xn == no) = false := by simpa using hxn
      gi_wp2_with fail
      refine ⟨(KeepsOthers.refl _).from _, Below.refl _ _, HBW.out, fun x hx => ?_⟩
      rcases List.mem_append.1 hx with hx | hx
      · exact HNE.out x hx
      · simp at hx; subst hx; exact hxn
  case done =>
    rintro D ys W hD rfl ⟨hBw, hne⟩ hK
    have hok := rebOk_in HD.out hne
    have HO := Lib.hid hok
    have HR := Lib.hid (rebR_no hok)
    replace c0 := (hBw.cell (p := ⟨w.heap.size + 1, 0, none⟩) (show w.heap.size + 1 < w1.heap.size by omega)).trans c0
    replace c1 := (hBw.cell (p := ⟨w.heap.size + 1, 1, none⟩) (show w.heap.size + 1 < w1.heap.size by omega)).trans c1
    replace c2 := (hBw.cell (p := ⟨w.heap.size + 1 + 1, 0, none⟩) (show w.heap.size + 1 + 1 < w1.heap.size by omega)).trans c2
    replace f0 := (hBw.frozen (p := ⟨w.heap.size + 1, 0, none⟩) (show w.heap.size + 1 < w1.heap.size by omega)).trans f0
    replace f1 := (hBw.frozen (p := ⟨w.heap.size + 1, 1, none⟩) (show w.heap.size + 1 < w1.heap.size by omega)).trans f1
    replace f2 := (hBw.frozen (p := ⟨w.heap.size + 1 + 1, 0, none⟩) (show w.heap.size + 1 + 1 < w1.heap.size by omega)).trans f2
    have HBE : Hid (Below w.heap.size w W) := HB1.out.trans (hBw.mono (by omega))
    clear hne hok hBw
    have HKD := Lib.hid hK
    clear hK
    go_wp2_with fail
    have hK2 := ((((KeepsOthers.setCell W ⟨w.heap.size + 1, 0, none⟩ (.int .i64 0)).trans (KeepsOthers.setCell _ ⟨w.heap.size + 1, 1, none⟩ (.string ⟨#[]⟩))).trans (KeepsOthers.setCell _ ⟨w.heap.size + 1 + 1, 0, none⟩ (.bool false))).same D _ HKD.out rfl)
    refine ⟨by simp, .inl ⟨_, _, rfl, run_takeDeferred hK2, ?_⟩⟩
    have hBf := (((HBE.out.setCell (p := ⟨w.heap.size + 1, 0, none⟩) (Nat.le_succ _) (.int .i64 0)).setCell (p := ⟨w.heap.size + 1, 1, none⟩) (Nat.le_succ _) (.string ⟨#[]⟩)).setCell (p := ⟨w.heap.size + 1 + 1, 0, none⟩) (show w.heap.size ≤ w.heap.size + 1 + 1 by omega) (.bool false))
    have hBe := hBf.trans (belowK_b (w := w) (Nat.le_refl _) _ D _ (.deferred none) (by omega) hK2 rfl rfl)
    obtain ⟨r0, r1, r2⟩ := set3 (x := .int .i64 0) (y := .string ⟨#[]⟩) (z := .bool false) (show w.heap.size + 1 ≠ w.heap.size + 1 + 1 by omega) c0 c1 c2
    have q0 := cell_kept r0 (grownBy_putObj' _ D (.deferred none)) (fun r e => by cases e; exact ⟨_, hK2, rfl⟩)
    have q1 := cell_kept r1 (grownBy_putObj' _ D (.deferred none)) (fun r e => by cases e; exact ⟨_, hK2, rfl⟩)
    have q2 := cell_kept r2 (grownBy_putObj' _ D (.deferred none)) (fun r e => by cases e; exact ⟨_, hK2, rfl⟩)
    refine ⟨.tuple #[.agg #[.int .i64 0, .string ⟨#[]⟩], .bool false], by simp [results, Tryd.results6, go_sem, q0, q1, q2], by rw [HR.out, HO.out]; rfl, TurnIn.of_below hBe⟩
  case stop =>
    rintro D c pre W hD hSp ⟨⟨rfl, pre0, x, rfl, hx, d0, d1, d2⟩, hBw⟩ hK
    obtain ⟨hok, hR⟩ := rebOk_at HD.out hSp hx
    have HO := Lib.hid hok
    have HR := Lib.hid hR
    clear hok hR c0 c1 c2 f0 f1 f2 c7
    gi_wp2_with fail
    refine ⟨by simp, .inl ⟨_, _, rfl, run_takeDeferred hK, ?_⟩⟩
    have hBe := hBw.trans (belowK_b (w := w) (Nat.le_refl _) W D _ (.deferred none) (by omega) hK rfl rfl)
    have q0 := cell_kept d0 (grownBy_putObj' _ D (.deferred none)) (fun r e => by cases e; exact ⟨_, hK, rfl⟩)
    have q1 := cell_kept d1 (grownBy_putObj' _ D (.deferred none)) (fun r e => by cases e; exact ⟨_, hK, rfl⟩)
    have q2 := cell_kept d2 (grownBy_putObj' _ D (.deferred none)) (fun r e => by cases e; exact ⟨_, hK, rfl⟩)
    refine ⟨.tuple #[.agg #[.int .i64 x.1, .string (str x.2)], .bool true], by simp [results, Tryd.results6, go_sem, q0, q1, q2], by rw [HR.out, HO.out], TurnIn.of_below hBe⟩

theorem rebuildShard_own (v : Value) (l : List Sh) (k m no : Int) (w : World) (hv : SeenH w v l) (hln : l.length ≤ 1048576) (ht : Tab w) (h0 : 0 < w.heap.size) :
    Calls Tryd.prog 6 #[v, .int .i64 k, .int .i64 m, .int .i64 no] w (RetShOk w (rebR l k m no) (rebOk l k m no)) := by
  by_cases hd : decOk l k m = true
  · have hbs := shapeOk_b (decOk_shape hd)
    obtain ⟨p, rfl⟩ := Int.eq_ofNat_of_zero_le (show 0 ≤ k by omega)
    obtain ⟨q, rfl⟩ := Int.eq_ofNat_of_zero_le (show 0 ≤ m by omega)
    exact rebuildShard_yes v l p q no w hv hln ht h0 hd
  · exact rebuildShard_no v l k m no w hv hln ht h0 (by simpa using hd)

end Go.Proofs.YtbfchebnooanjaaDoor

/- CheckShards, the model's. -/
namespace G294
open Go Go.RowKit
/-- two bools are returned -/
def RetBools (w : World) (a b : Bool) (e : Ending) (w' : World) : Prop := e = .returned (.tuple #[.bool a, .bool b]) ∧ TurnIn 0 0 w w'
theorem str_ne_iff (a b : List UInt8) : ((str a).toList != (str b).toList) = !decide (a = b) := by
  rw [str_toList, str_toList]
  by_cases h : a = b <;> simp [h]
theorem str_eq_iff (a b : List UInt8) : ((str a).toList == (str b).toList) = decide (a = b) := by
  rw [str_toList, str_toList]
  by_cases h : a = b <;> simp [h]
end G294
namespace Go.Proofs.YtbfchebnooanjaaDoor
open Go.RowKit Go.Shelf G294

set_option maxRecDepth 100000 in
set_option maxHeartbeats 2000000 in
theorem sCheckShards_own (v : Value) (l : List Sh) (k m : Int) (w : World) (hv : SeenH w v l) :
    Calls Tryd.prog 9 #[v, .int .i64 k, .int .i64 m] w (RetBools w (chkR l k m) (decOk l k m)) := by
  have HV := Lib.hid hv
  obtain ⟨A, cp, rfl, hlc, hcm, hx⟩ := hv
  unfold maxLen at hcm
  by_cases hd : decOk l k m = true
  · have HD := Lib.hid hd
    have hbs := shapeOk_b (decOk_shape hd)
    have h40 := shards_40 (decOk_shards hd)
    obtain ⟨p, rfl⟩ := Int.eq_ofNat_of_zero_le (show 0 ≤ k by omega)
    obtain ⟨q, rfl⟩ := Int.eq_ofNat_of_zero_le (show 0 ≤ m by omega)
    have HNO := Lib.hid (shards_no (decOk_shards hd))
    have HDL := Lib.hid (decR_length hd)
    have HDR := Lib.hid (decR_row hd)
    have HCK := Lib.hid (chkR_yes hd)
    have HX := Lib.hid hx
    clear hd hx
    generalize hL : l.length = L at *
    have HL := Lib.hid hL
    clear hL
    go_enter Tryd.func9, Tryd.ntmps9
    go_wp2_with fail
    refine (sDecodeShards_own _ l p q _ HV.out).mono ?_
    rintro e w1 ⟨v1, rfl, o1, k1⟩
    obtain ⟨A1, n1, c1', rfl⟩ := o1.isSlice
    rw [HD.out]
    have hs1 := k1.size
    have HO1 := Lib.hid o1
    clear o1
    go_wp2_with fail
    refine (l3Matrix_own p q _ (by omega) (by omega) (by omega) (by omega)).mono ?_
    rintro e w2 ⟨v2, vs2, rfl, hM2, k2⟩
    obtain ⟨A2, n2, c2, rfl⟩ := hM2.isSlice
    have hs2 := k2.size
    have HM2 := Lib.hid hM2
    have HO2 := Lib.hid (HO1.out.keep k2 (by omega))
    clear hM2
    go_wp2_with fail
    refine (l3Rows_own (p + q) p (lenH l) (codF p) (decR l p q) _ _ _ HM2.out.seen HO2.out.seen HDL.out (by omega) (by omega) (by omega) HDR.out (by omega)).mono ?_
    rintro e w3 ⟨v3, rfl, o3, k3⟩
    have hs3 := k3.size
    have KF := Lib.hid (turn_trans (turn_trans k1 k2 (by omega)) k3 (by omega))
    obtain ⟨A3, c3, hv3, _, hcm3, hx3⟩ := o3.seen
    rw [strs_length, rowsT_length] at hv3
    obtain ⟨b3, off3, rfl, hb3, hc3⟩ := hx3 (by rw [strs_length, rowsT_length]; omega)
    subst hv3
    unfold maxLen at hcm3
    have HC3 : Hid (∀ t, t < p + q → w3.cell? ⟨b3, off3 + t, none⟩ = some (.string (str (comb p (lenH l) (codF p t) (decR l p q))))) := fun t ht => by
      have htl : t < (rowsT (p + q) p (lenH l) (codF p) (decR l p q)).length := by rw [rowsT_length]; omega
      rw [hc3 t _ (strs_get _ t htl)]
      simp [rowsT, mkM, comb]
    generalize hff : (fun j => comb p (lenH l) (codF p j) (decR l p q)) = f at *
    have HC4 : Hid (∀ t, t < p + q → w3.cell? ⟨b3, off3 + t, none⟩ = some (.string (str (f t)))) := by
      rw [← hff]; exact HC3.out
    clear hx3 hc3 o3 k1 k2 k3 hff HC3 HO1 HO2 HM2 HDL HDR
    generalize hr : p + q = r at *
    have HRR := Lib.hid hr
    clear hr
    go_wp2_with fail
    go_loopw [29] (fun i wr => ∃ j : Nat, j ≤ L ∧ i = .int .i64 j ∧ Hid (∀ (i : Nat) (s : Sh), i < j → l[i]? = some s → s.2 = f s.1.toNat) ∧ Below w3.heap.size w3 wr) (fun i _ => L - (intOf i).toNat)
    case atStart => exact ⟨0, Nat.zero_le _, rfl, (fun i s hi => by omega), Below.refl _ _⟩
    case round =>
      obtain ⟨j, hj, rfl, HM, hb⟩ := hrel
      have hbz := hb.size
      have HBW : Hid (Below w.heap.size w wr) := KF.out.to_below.trans (hb.mono (by have := KF.out.size; omega))
      by_cases hlt : j < L
      · have hji : (j : Int) < (L : Int) := by omega
        obtain ⟨b, off, rfl, hbl, hcell⟩ := HX.out (by omega)
        obtain ⟨⟨no, s⟩, hks⟩ := at_lt HL.out hlt
        have hn2 := HNO.out j _ hks
        simp only at hn2
        obtain ⟨no, rfl⟩ := Int.eq_ofNat_of_zero_le hn2.1
        have hnr : no < r := by have := HRR.out; omega
        have cc1 := (HBW.out.cell (p := ⟨b, off + j * 2, none⟩) hbl).trans (hcell j _ hks).1
        have cc2 := (HBW.out.cell (p := ⟨b, off + j * 2 + 1, none⟩) hbl).trans (hcell j _ hks).2
        simp only at cc1 cc2
        have ca := (hb.cell (p := ⟨b3, off3 + no, none⟩) hb3).trans (HC4.out no hnr)
        have hn0 : (0 : Int) ≤ (no : Int) := by omega
        have hn1 : (no : Int) < (r : Int) := by omega
        have ca2 : (wr.alloc (.cells #[.int .i64 no, .string (str s)] 27)).cell? ⟨b3, off3 + no, none⟩ = some (.string (str (f no))) := cell_turn (turn_alloc _ _) ca (by omega)
        have cs1 := alloc_pair0' wr (.int .i64 no) (.string (str s)) 27
        have cs2 := alloc_pair1' wr (.int .i64 no) (.string (str s)) 27
        have hb2 := hb.alloc hbz (.cells #[.int .i64 no, .string (str s)] 27)
        have HKS := Lib.hid hks
        clear hcell hks hn2
        by_cases he : s = f no
        · have hbb : ((str (f no)).toList != (str s).toList) = false := by rw [str_ne_iff, he]; simp
          have hbe : ((str (f no)).toList == (str s).toList) = true := by rw [str_eq_iff, he]; simp
          have HE := Lib.hid he
          clear he
          go_wp2_with fail
          generalize (wr.alloc (.cells #[.int .i64 no, .string (str s)] 27)) = W1 at *
          go_quiet (fail)
          go_wp2_with fail
          go_roundw
          case rel => exact ⟨j + 1, by omega, by go_num, (fun i x hi hx => by
            by_cases e : i < j
            · exact HM.out i x e hx
            · obtain rfl : i = j := by omega
              have e1 := HKS.out
              rw [hx] at e1
              cases e1
              simpa using HE.out), below_drewN hb2 _⟩
          case measure => simp [intOf]; omega
        · have hbb : ((str (f no)).toList != (str s).toList) = true := by rw [str_ne_iff]; simpa using fun e => he e.symm
          have hbe : ((str (f no)).toList == (str s).toList) = false := by rw [str_eq_iff]; simpa using fun e => he e.symm
          have HF : Hid (chkR l p q = false) := by
            show chkR l p q = false
            rw [HCK.out, ← Bool.not_eq_true, matchB_iff]
            intro hall
            have := hall j _ HKS.out
            simp at this
            exact he this
          clear he
          go_wp2_with fail
          generalize (wr.alloc (.cells #[.int .i64 no, .string (str s)] 27)) = W1 at *
          go_quiet (fail)
          go_wp2_with fail
          go_ret2
          exact ⟨by rw [HF.out, HD.out]; rfl, TurnIn.of_below (KF.out.to_below.trans ((below_drewN hb2 _).mono KF.out.size))⟩
      · obtain rfl : j = L := by omega
        have hji : ¬ (j : Int) < (j : Int) := by omega
        have HF : Hid (chkR l p q = true) := by
          show chkR l p q = true
          rw [HCK.out, matchB_iff]
          exact fun i s hs => HM.out i s (by have := (List.getElem?_eq_some_iff.1 hs).1; have := HL.out; omega) hs
        go_wp2_with fail
        go_ret2
        exact ⟨by rw [HF.out, HD.out]; rfl, TurnIn.of_below HBW.out⟩
  · have hd' : decOk l k m = false := by simpa using hd
    have HD := Lib.hid hd'
    have HF := Lib.hid (chkR_no hd')
    clear hd hd' hx
    go_enter Tryd.func9, Tryd.ntmps9
    go_wp2_with fail
    refine (sDecodeShards_own _ l k m _ HV.out).mono ?_
    rintro e w1 ⟨v1, rfl, o1, k1⟩
    obtain ⟨A1, n1, c1', rfl⟩ := o1.isSlice
    rw [HD.out]
    clear o1
    go_wp2_with fail
    go_ret2
    exact ⟨by rw [HF.out, HD.out]; rfl, k1⟩

end Go.Proofs.YtbfchebnooanjaaDoor
