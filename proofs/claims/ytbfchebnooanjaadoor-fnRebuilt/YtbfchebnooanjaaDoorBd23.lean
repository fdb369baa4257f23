/- Joined texts: Check. -/
import Derived.Test.YtbfchebnooanjaaDoorBd22
import Derived.Test.YtbfchebnooanjaaDoorBd20
import Derived.Laws.StructEq
import Derived.WalkMore
import Derived.Shelf.SlicesE.Kit
set_option linter.unusedSimpArgs false
set_option linter.unusedVariables false
/- CheckShards, the program's. -/
namespace G294
open Go Go.RowKit
theorem keepBut_grown {n₀ Bs : Nat} {W0 X Y : World} {row : Option Nat} (h : KeepBut n₀ Bs W0 X) (hg : X.grownBy Y row) (hr : ∀ r, row = some r → n₀ ≤ r) (hs : n₀ ≤ W0.heap.size) : KeepBut n₀ Bs W0 Y :=
  ⟨hg.os.trans h.os, hg.tape.trans h.tape, hg.output.trans h.output, Nat.le_trans h.size hg.size, fun k hk hne => (hg.block k (by have := h.size; omega) (fun e => by have := hr k e.symm; omega)).trans (h.block k hk hne)⟩
theorem keepBut_drew (n₀ Bs : Nat) (W : World) : KeepBut n₀ Bs W W.drew := ⟨rfl, rfl, rfl, Nat.le_refl _, fun _ _ _ => rfl⟩
theorem keepBut_set (n₀ Bs : Nat) (W : World) (v : Value) : KeepBut n₀ Bs W (W.setCell ⟨Bs, 0, none⟩ v) :=
  ⟨rfl, rfl, rfl, by simp, fun k _ hne => heap_setCell_other W ⟨Bs, 0, none⟩ k v (by intro e; simp at e; omega)⟩
theorem stp_full {l : List Sh} {t : Nat} (x : Sh) (h : t = l.length) : stp l t x = none := if_pos h
theorem stp_hit {l : List Sh} {t : Nat} {x : Sh} (h : l[t]? = some x) : stp l t x = some (t + 1) := by
  have hl := (List.getElem?_eq_some_iff.1 h).1
  unfold stp
  rw [if_neg (by omega), if_pos (by simp [List.getD, h])]
theorem stp_bad {l : List Sh} {t : Nat} {x y : Sh} (h : l[t]? = some y) (hne : ¬ x = y) (hn : x.1 = y.1) : stp l t x = none := by
  have hl := (List.getElem?_eq_some_iff.1 h).1
  unfold stp
  rw [if_neg (by omega), if_neg (by simpa [List.getD, h] using hne), if_pos (by simpa [List.getD, h] using hn)]
theorem stp_on {l : List Sh} {t : Nat} {x y : Sh} (h : l[t]? = some y) (hne : ¬ x = y) (hn : ¬ x.1 = y.1) : stp l t x = some t := by
  have hl := (List.getElem?_eq_some_iff.1 h).1
  unfold stp
  rw [if_neg (by omega), if_neg (by simpa [List.getD, h] using hne), if_neg (by simpa [List.getD, h] using hn)]
theorem prefix_mk {f : Nat → List UInt8} {r : Nat} {pre : List Sh} {x : Sh} (h : pre ++ [x] <+: mk f r) : pre = mk f pre.length ∧ x = ((pre.length : Int), f pre.length) := by
  obtain ⟨t, ht⟩ := h
  have hl : pre.length < r := by
    have := congrArg List.length ht
    simp [mk] at this; omega
  constructor
  · have e : pre = (mk f r).take pre.length := by rw [← ht]; simp
    rw [e]
    simp [mk, ← List.map_take, List.take_range]
    try omega
  · have hg : (mk f r)[pre.length]? = some x := by rw [← ht]; simp
    have hg2 : (mk f r)[pre.length]? = some ((pre.length : Int), f pre.length) := by simp [mk, hl]
    exact Option.some.inj (hg.symm.trans hg2)
theorem cell_of_heap' {w : World} {B o : Nat} {cs : Array Value} {T : TypeId} {fr : Nat × Nat} {v : Value} (h : w.heap[B]? = some (.cells cs T fr)) (hv : cs[o]? = some v) : w.cell? ⟨B, o, none⟩ = some v := by
  simp [World.cell?, h, hv]
end G294
namespace Go.Proofs.YtbfchebnooanjaaDoor
open Go.RowKit Go.Shelf G294

attribute [local go_sem] Oper.semAt_some

set_option maxRecDepth 100000 in
theorem eqlShard (a b : Int) (x y : List UInt8) (w : World) : (binOp .eql 27 (.agg #[.int .i64 a, .string (str x)]) (.agg #[.int .i64 b, .string (str y)])).run Tryd.prog w = .ok (.bool (decide ((a, x) = (b, y)))) w := by
  have u3 := Tryd.underlying3
  have u9 := Tryd.underlying9
  have hS : Tryd.prog.underlying 27 = some (.struct (Tryd.prog.fieldsOf 27)) := by kernel_rfl
  have hp : Tryd.prog.stoodInHeld 27 = false := by kernel_rfl
  rw [run_eql_struct, show (10000 : Nat) = 9999 + 1 from rfl, run_equalIn_agg w 9999 27 _ _ hS hp]
  simp only [Program.fieldsOf, Tryd.underlying27]
  go_simp
  have hh : (str x).toList = (str y).toList ↔ x = y := by rw [str_toList, str_toList]
  by_cases h1 : a = b <;> by_cases h2 : x = y <;> simp [h1, h2, hh]

set_option maxRecDepth 100000 in
set_option maxHeartbeats 3000000 in
theorem allAmong_own (v : Value) (l : List Sh) (p q Bm Bt : Nat) (Am At : Option Addr) (nm cm nt ct : Nat) (w : World) (hv : SeenH w v l) (hd : decOk l p q = true)
    (bM : Boxed w Bm 67 (.slice Am nm cm)) (bT : Boxed w Bt 35 (.slice At nt ct)) (oM : SeenM w (.slice Am nm cm) (codM p q)) (oT : Seen w (.slice At nt ct) (strs (decR l p q))) (ht : Tab w) (h0 : 0 < w.heap.size) :
    Calls Tryd.prog 32 #[v, .func (.func 83) #[] #[.pointer (some ⟨Bm, 0, none⟩), .pointer (some ⟨Bt, 0, none⟩)]] w (RetBool w (chkR l p q)) := by
  have HV := Lib.hid hv
  have HTB := Lib.hid ht
  have HOM := Lib.hid oM
  have HOT := Lib.hid oT
  have HBM := Lib.hid bM
  have HBT := Lib.hid bT
  have hbs := shapeOk_b (decOk_shape hd)
  have h40 := shards_40 (decOk_shards hd)
  have HDL := Lib.hid (decR_length hd)
  have HDR := Lib.hid (decR_row hd)
  have HCK := Lib.hid (chkR_yes hd)
  have HSO : Hid (shardsOk l ((p + q : Nat) : Int) = true) := by
    show shardsOk l ((p + q : Nat) : Int) = true
    rw [← show (p : Int) + (q : Int) = ((p + q : Nat) : Int) by omega]; exact decOk_shards hd
  obtain ⟨A, cp, rfl, hlc, hcm, hx⟩ := hv
  have HX := Lib.hid hx
  unfold maxLen at hcm
  clear ht oM oT bM bT hd hx
  have hSF : shardsF (p + q) p (lenH l) (codF p) (decR l p q) = mk (fun j => comb p (lenH l) (codF p j) (decR l p q)) (p + q) := rfl
  have HSF := Lib.hid hSF
  clear hSF
  have hL2 := List.length_nil (α := Nat)
  clear hL2
  generalize hL : l.length = L at *
  have HL := Lib.hid hL
  clear hL
  have hmx : Tryd.prog.follows .mixedOrders = true := by kernel_rfl
  have b0 := (Boxed.new w 23 (.slice A L cp)).alloc (.cells #[.int .i64 0] 3)
  have b1 := Boxed.new (w.alloc (.cells #[.slice A L cp] 23)) 3 (.int .i64 0)
  rw [World.size_alloc] at b1
  have k0 : TurnIn 0 0 w ((w.alloc (.cells #[.slice A L cp] 23)).alloc (.cells #[.int .i64 0] 3)) := turn_trans (turn_alloc _ _) (turn_alloc _ _) (by omega)
  have z0 : ((w.alloc (.cells #[.slice A L cp] 23)).alloc (.cells #[.int .i64 0] 3)).heap.size = w.heap.size + 2 := by simp
  refine (callsIn_wide (n := 5)).1 ?_
  refine callsIn_of_wp_marks Tryd.func32 rfl trivial ?_ rfl
  simp only [Tryd.ntmps32, List.size_toArray, List.length_cons, List.length_nil, Nat.reduceAdd, Nat.reduceSub, Array.replicate_succ, Array.replicate_zero, List.push_toArray, List.append_toArray, List.nil_append, List.cons_append]
  refine wpIn_wide.2 ?_
  go_wp2_with fail
  go_step3
  go_wp2_with fail
  go_step3
  go_wp2_with fail
  generalize ((w.alloc (.cells #[.slice A L cp] 23)).alloc (.cells #[.int .i64 0] 3)) = W0 at *
  have HZ0 := Lib.hid z0
  have hz0 : w.heap.size + 2 ≤ W0.heap.size := by omega
  have hz1 : W0.heap.size ≤ w.heap.size + 2 := by omega
  have HB0 := Lib.hid k0.to_below
  have HBX0 := Lib.hid b0
  clear z0 k0
  have HINV : Hid (∀ W W', KeepBut (w.heap.size + 2) (w.heap.size + 1) W0 W → (KeepBut (w.heap.size + 2) (w.heap.size + 1) W W' ∨ Below W.heap.size W W') → KeepBut (w.heap.size + 2) (w.heap.size + 1) W0 W') := fun W W' h h' => by
    rcases h' with h' | h'
    · exact h.trans h'
    · exact h.trans (KeepBut.of_below (h'.mono (by have := h.size; omega)))
  have HBW : Hid (∀ W, KeepBut (w.heap.size + 2) (w.heap.size + 1) W0 W → Below w.heap.size w W) := fun W h => h.below HB0.out (by omega) (by omega)
  refine (wpIn_wide (n := 5)).1 ?_
  refine wpIn_rangeFunc_ownH rfl (by omega) (gf := 83) (lb := #[.pointer (some ⟨Bm, 0, none⟩), .pointer (some ⟨Bt, 0, none⟩)]) rfl trivial (enters_of Tryd.func83 (by kernel_rfl) rfl)
    (shardsBy_stops _ (p + q) p (lenH l) Bm Bt (codF p) (decR l p q) (.slice Am nm cm) (.slice At nt ct) W0 (KeepBut (w.heap.size + 2) (w.heap.size + 1)) (KeepBut (w.heap.size + 2) (w.heap.size + 1) W0) HDL.out (by omega) (by omega) (by omega) HDR.out (by omega)
      (fun W hW => ⟨⟨((HBW.out W hW).cell (p := ⟨Bm, 0, none⟩) HBM.out.lt).trans HBM.out.cell, ((HBW.out W hW).cell (p := ⟨Bt, 0, none⟩) HBT.out.lt).trans HBT.out.cell⟩, ⟨HOM.out.below (HBW.out W hW), HOT.out.below (HBW.out W hW)⟩, HTB.out.below (HBW.out W hW) h0, by have := (HBW.out W hW).size; omega⟩)
      (fun W W' h h' => HINV.out W W' h (.inl h')) (fun W W' h h' => HINV.out W W' h (.inr h')) (fun W h => KeepBut.of_below (h.mono (by omega))) (by omega))
    (fun h h' => h.trans h') (KeepBut.putObj (by omega)) (Below.refl _ _) (fun _ => rfl)
    (fun pre W => (∃ t, runC l pre = some t ∧ t ≤ L ∧ Boxed W (w.heap.size + 1) 3 (.int .i64 (t : Nat))) ∧ KeepBut (w.heap.size + 2) (w.heap.size + 1) W0 W)
    (fun c pre W => c = Code.exit 0 ∧ (∃ pre0 x t, pre = pre0 ++ [x] ∧ runC l pre0 = some t ∧ stp l t x = none ∧ Boxed W (w.heap.size + 1) 3 (.int .i64 (t : Nat))) ∧ KeepBut (w.heap.size + 2) (w.heap.size + 1) W0 W)
    (fun s X Y row hs hg hr => by
      obtain ⟨⟨t, e1, e2, e3⟩, hk⟩ := hs
      exact ⟨⟨t, e1, e2, boxed_own _ _ (fun _ : Unit => .int .i64 (t : Nat)) () X Y row e3 hg (fun r e => (hr r e).2)⟩, keepBut_grown hk hg (fun r e => by have := (hr r e).1; omega) (by omega)⟩)
    (fun c s X Y row hs hg hr => by
      obtain ⟨hc, ⟨pre0, x, t, e0, e1, e2, e3⟩, hk⟩ := hs
      exact ⟨hc, ⟨pre0, x, t, e0, e1, e2, boxed_own _ _ (fun _ : Unit => .int .i64 (t : Nat)) () X Y row e3 hg (fun r e => (hr r e).2)⟩, keepBut_grown hk hg (fun r e => by have := (hr r e).1; omega) (by omega)⟩)
    ⟨⟨0, rfl, Nat.zero_le _, b1⟩, KeepBut.refl _ _ _⟩
    (fun x a' W => ∃ Bx, w.heap.size + 2 ≤ Bx ∧ W.heap[Bx]? = some (.cells #[.int .i64 x.1, .string (str x.2)] 27 (0, 0)) ∧ a' = { tmps := #[.slice A L cp, .func (.func 83) #[] #[.pointer (some ⟨Bm, 0, none⟩), .pointer (some ⟨Bt, 0, none⟩)],
      .pointer (some ⟨w.heap.size, 0, none⟩), undef, .bool false, .pointer (some ⟨w.heap.size + 1, 0, none⟩), .pointer (some ⟨Bx, 0, none⟩), .func (.func 83) #[] #[.pointer (some ⟨Bm, 0, none⟩), .pointer (some ⟨Bt, 0, none⟩)], shV x,
      undef, undef, undef, undef, undef, undef, undef, undef, undef, undef, undef, undef, undef, undef, undef, undef, undef, undef, undef, undef, undef, undef, undef, undef, undef, undef, undef], defers := [] })
    (fun x a' _ X Y row hs hg hr => by
      obtain ⟨Bx, e1, e2, e3⟩ := hs
      refine ⟨Bx, e1, ?_, e3⟩
      rw [hg.block Bx (Array.getElem?_eq_some_iff.1 e2).1 (fun e => by
        obtain ⟨o, ho, hoc⟩ := (hr Bx e.symm).2
        rw [e2] at ho
        cases ho
        simp [Obj.isCells] at hoc)]
      exact e2)
    ?assign ?body ?done ?stop
  case assign =>
    rintro ll pre x W K ⟨⟨t, e1, e2, e3⟩, hk⟩ hK
    simp only [shV]
    gi_wp2_with fail
    exact hK _ _ ((KeepsOthers.alloc _ _).from _) (KeepBut.of_below ((Below.refl _ W).alloc (by have := hk.size; omega) _)) ⟨⟨t, e1, e2, e3.alloc _⟩, hk.trans (KeepBut.of_below ((Below.refl _ W).alloc (by have := hk.size; omega) _))⟩ ⟨W.heap.size, by have := hk.size; omega, World.alloc_heap_new W _, rfl⟩
  case body =>
    rintro ll pre x a' W hl ⟨rr, hr⟩ ⟨⟨t, e1, e2, e3⟩, hk⟩ ⟨Bx, hBx, hX, rfl⟩ hlt
    obtain ⟨xn, sx⟩ := x
    have cX0 := cell_of_heap' (o := 0) (v := .int .i64 xn) hX rfl
    have cX1 := cell_of_heap' (o := 1) (v := .string (str sx)) hX rfl
    have cN := e3.cell
    have fN := e3.frozen
    have cL : W.cell? ⟨w.heap.size, 0, none⟩ = some (.slice A L cp) := (hk.cell (by omega) (by omega)).trans HBX0.out.cell
    have HK := Lib.hid hk
    have HE1 := Lib.hid e1
    have HE3 := Lib.hid e3
    simp only [shV]
    clear hX hr e1 hk e3
    by_cases htL : t = L
    · have hb : ((t : Int) == (L : Int)) = true := by simp [htL]
      have HT := Lib.hid htL
      clear htL
      gi_wp2_with fail
      exact ⟨(KeepsOthers.refl _).from _, rfl, ⟨pre, (xn, sx), t, rfl, HE1.out, stp_full _ (by rw [HL.out]; exact HT.out), HE3.out⟩, HK.out⟩
    · have hb : ((t : Int) == (L : Int)) = false := by simpa using fun e => htL (by omega)
      have htl : t < L := by omega
      obtain ⟨b, off, rfl, hbl, hcell⟩ := HX.out (by omega)
      obtain ⟨⟨yn, sy⟩, hks⟩ := at_lt HL.out htl
      have hBW := HBW.out W HK.out
      have cY0 := (hBW.cell (p := ⟨b, off + t * 2, none⟩) hbl).trans (hcell t _ hks).1
      have cY1 := (hBW.cell (p := ⟨b, off + t * 2 + 1, none⟩) hbl).trans (hcell t _ hks).2
      simp only at cY0 cY1
      have ht0 : (0 : Int) ≤ (t : Int) := by omega
      have ht1 : (t : Int) < (L : Int) := by omega
      have hgd : ∀ (op : BinOp) (a b : Operand) (W : World), (eqGuard op 27 a b (.agg #[.int .i64 xn, .string (str sx)]) (.agg #[.int .i64 yn, .string (str sy)])).run Tryd.prog W = .ok () W := fun op a b W => (GuardAt.agg (P := Tryd.prog) (T := 27) (α := Sh) (fun x => #[.int .i64 x.1, .string (str x.2)]) (by kernel_rfl)) op a b (xn, sx) (yn, sy) W
      have heq0 := fun W => eqlShard xn yn sx sy W
      have HKS := Lib.hid hks
      clear hcell hks htL
      by_cases he : (xn, sx) = (yn, sy)
      · have heq : ∀ W, (binOp .eql 27 (.agg #[.int .i64 xn, .string (str sx)]) (.agg #[.int .i64 yn, .string (str sy)])).run Tryd.prog W = .ok (.bool true) W := fun W => by rw [heq0 W]; simp [he]
        have HE := Lib.hid he
        clear he heq0
        gi_wp2_with fail
        refine Code.wpIn_mono (Q := fun e a' W' => e = Exit.normal ∧ a' = ({ tmps := #[.slice (some ⟨b, off, none⟩) L cp, .func (.func 83) #[] #[.pointer (some ⟨Bm, 0, none⟩), .pointer (some ⟨Bt, 0, none⟩)], .pointer (some ⟨w.heap.size, 0, none⟩), undef, .bool false, .pointer (some ⟨w.heap.size + 1, 0, none⟩), .pointer (some ⟨Bx, 0, none⟩), .func (.func 83) #[] #[.pointer (some ⟨Bm, 0, none⟩), .pointer (some ⟨Bt, 0, none⟩)], .agg #[.int .i64 xn, .string (str sx)], .bool false, .int .i64 t, .slice (some ⟨b, off, none⟩) L cp, .int .i64 L, .bool false, .bool true, .agg #[.int .i64 xn, .string (str sx)], .slice (some ⟨b, off, none⟩) L cp, .int .i64 t, .pointer (some ⟨b, off + t * 2, none⟩), .agg #[.int .i64 yn, .string (str sy)], .bool true, undef, undef, undef, undef, undef, undef, undef, undef, undef, undef, undef, undef, undef, undef, undef], defers := [] } : Act) ∧ W' = W.drew) ?hq ?hr
        case hr =>
          gi_region_with_o (fail)
          all_goals exact ⟨rfl, rfl, rfl⟩
        rintro e a' W' ⟨rfl, rfl, rfl⟩
        simp only [Exit.then]
        gi_wp2_with fail
        refine ⟨((KeepsOthers.drew _).trans (KeepsOthers.setCell _ _ _)).from _, (keepBut_drew _ _ _).trans (keepBut_set _ _ _ _), ⟨t + 1, ?_, by omega, ?_⟩, (HK.out.trans (keepBut_drew _ _ _)).trans (keepBut_set _ _ _ _)⟩
        · rw [runC_snoc, HE1.out, Option.bind_some, HE.out]; exact stp_hit HKS.out
        · have hh : Boxed W.drew (w.heap.size + 1) 3 (.int .i64 (t : Nat)) := HE3.out
          exact hh.set _
      · have heq : ∀ W, (binOp .eql 27 (.agg #[.int .i64 xn, .string (str sx)]) (.agg #[.int .i64 yn, .string (str sy)])).run Tryd.prog W = .ok (.bool false) W := fun W => by rw [heq0 W]; simp only [he, decide_false]
        have HE := Lib.hid he
        clear he heq0
        by_cases hn : xn = yn
        · have hbn : (xn == yn) = true := by simpa using hn
          have HN := Lib.hid hn
          clear hn
          gi_wp2_with fail
          refine Code.wpIn_mono (Q := fun e a' W' => e = Exit.normal ∧ a' = ({ tmps := #[.slice (some ⟨b, off, none⟩) L cp, .func (.func 83) #[] #[.pointer (some ⟨Bm, 0, none⟩), .pointer (some ⟨Bt, 0, none⟩)], .pointer (some ⟨w.heap.size, 0, none⟩), undef, .bool false, .pointer (some ⟨w.heap.size + 1, 0, none⟩), .pointer (some ⟨Bx, 0, none⟩), .func (.func 83) #[] #[.pointer (some ⟨Bm, 0, none⟩), .pointer (some ⟨Bt, 0, none⟩)], .agg #[.int .i64 xn, .string (str sx)], .bool false, .int .i64 t, .slice (some ⟨b, off, none⟩) L cp, .int .i64 L, .bool false, .bool false, .agg #[.int .i64 xn, .string (str sx)], .slice (some ⟨b, off, none⟩) L cp, .int .i64 t, .pointer (some ⟨b, off + t * 2, none⟩), .agg #[.int .i64 yn, .string (str sy)], .bool false, undef, undef, undef, undef, undef, undef, undef, undef, undef, undef, undef, undef, undef, undef, undef], defers := [] } : Act) ∧ W' = W.drew) ?hq2 ?hr2
          case hr2 =>
            gi_region_with_o (fail)
            all_goals exact ⟨rfl, rfl, rfl⟩
          rintro e a' W' ⟨rfl, rfl, rfl⟩
          simp only [Exit.then]
          gi_wp2_with fail
          gi_region_with_o (fail)
          all_goals
              gi_wp2_with fail
              refine ⟨((KeepsOthers.drew _).trans (KeepsOthers.drew _)).from _, rfl, ⟨pre, (xn, sx), t, rfl, HE1.out, stp_bad HKS.out HE.out HN.out, HE3.out⟩, (HK.out.trans (keepBut_drew _ _ _)).trans (keepBut_drew _ _ _)⟩
        · have hbn : (xn == yn) = false := by simpa using hn
          have HN := Lib.hid hn
          clear hn
          gi_wp2_with fail
          refine Code.wpIn_mono (Q := fun e a' W' => e = Exit.normal ∧ a' = ({ tmps := #[.slice (some ⟨b, off, none⟩) L cp, .func (.func 83) #[] #[.pointer (some ⟨Bm, 0, none⟩), .pointer (some ⟨Bt, 0, none⟩)], .pointer (some ⟨w.heap.size, 0, none⟩), undef, .bool false, .pointer (some ⟨w.heap.size + 1, 0, none⟩), .pointer (some ⟨Bx, 0, none⟩), .func (.func 83) #[] #[.pointer (some ⟨Bm, 0, none⟩), .pointer (some ⟨Bt, 0, none⟩)], .agg #[.int .i64 xn, .string (str sx)], .bool false, .int .i64 t, .slice (some ⟨b, off, none⟩) L cp, .int .i64 L, .bool false, .bool false, .agg #[.int .i64 xn, .string (str sx)], .slice (some ⟨b, off, none⟩) L cp, .int .i64 t, .pointer (some ⟨b, off + t * 2, none⟩), .agg #[.int .i64 yn, .string (str sy)], .bool false, undef, undef, undef, undef, undef, undef, undef, undef, undef, undef, undef, undef, undef, undef, undef], defers := [] } : Act) ∧ W' = W.drew) ?hq3 ?hr3
          case hr3 =>
            gi_region_with_o (fail)
            all_goals exact ⟨rfl, rfl, rfl⟩
          rintro e a' W' ⟨rfl, rfl, rfl⟩
          simp only [Exit.then]
          gi_wp2_with fail
          gi_region_with_o (fail)
          all_goals
              gi_wp2_with fail
              refine ⟨((KeepsOthers.drew _).trans (KeepsOthers.drew _)).from _, (keepBut_drew _ _ _).trans (keepBut_drew _ _ _), ⟨t, ?_, by omega, HE3.out⟩, (HK.out.trans (keepBut_drew _ _ _)).trans (keepBut_drew _ _ _)⟩
              rw [runC_snoc, HE1.out, Option.bind_some]; exact stp_on HKS.out HE.out HN.out
  case done =>
    rintro D ys W hD rfl ⟨⟨t, e1, e2, e3⟩, hk⟩ hK
    rw [HSF.out] at e1
    have hr := runC_done HSO.out e1
    have cN := e3.cell
    have cL : W.cell? ⟨w.heap.size, 0, none⟩ = some (.slice A L cp) := (hk.cell (by omega) (by omega)).trans HBX0.out.cell
    have hBw := HBW.out W hk
    have HRES : Hid (((t : Int) == (L : Int)) = chkR l p q) := by
      show _ = _
      rw [HCK.out, ← hr, HL.out]
      by_cases e : t = L <;> simp [e]
      omega
    have HBE := Lib.hid hBw
    clear hr e1 e3 hk hBw
    go_wp2_with fail
    rw [Exit.noGoto_ret]
    refine ⟨by simp, .inl ⟨_, _, rfl, run_takeDeferred hK, ?_⟩⟩
    have hBe := HBE.out.trans (belowK_b (w := w) (Nat.le_refl _) W D _ (.deferred none) (by omega) hK rfl rfl)
    refine ⟨_, results_tmp rfl _ _ _, ?_, TurnIn.of_below hBe⟩
    rw [← HRES.out]; rfl
  case stop =>
    rintro D c pre W hD hSp ⟨rfl, ⟨pre0, x, t, rfl, e1, e2, e3⟩, hk⟩ hK
    rw [HSF.out] at hSp
    obtain ⟨q1, q2⟩ := prefix_mk hSp
    rw [q1] at e1
    rw [q2] at e2
    have hr := runC_stop HSO.out e1 e2
    have cN := e3.cell
    have cL : W.cell? ⟨w.heap.size, 0, none⟩ = some (.slice A L cp) := (hk.cell (by omega) (by omega)).trans HBX0.out.cell
    have hBw := HBW.out W hk
    have HRES : Hid (((t : Int) == (L : Int)) = chkR l p q) := by
      show _ = _
      rw [HCK.out, ← hr, HL.out]
      by_cases e : t = L <;> simp [e]
      omega
    have HBE := Lib.hid hBw
    clear hr e1 e2 e3 hk hBw q1 q2 hSp
    gi_wp2_with fail
    go_wp2_with fail
    rw [Exit.noGoto_ret]
    refine ⟨by simp, .inl ⟨_, _, rfl, run_takeDeferred hK, ?_⟩⟩
    have hBe := HBE.out.trans (belowK_b (w := w) (Nat.le_refl _) W D _ (.deferred none) (by omega) hK rfl rfl)
    refine ⟨_, results_tmp rfl _ _ _, ?_, TurnIn.of_below hBe⟩
    rw [← HRES.out]; rfl

set_option maxRecDepth 100000 in
set_option maxHeartbeats 2000000 in
theorem checkShards_own (v : Value) (l : List Sh) (k m : Int) (w : World) (hv : SeenH w v l) (hln : l.length ≤ 1048576) (ht : Tab w) (h0 : 0 < w.heap.size) :
    Calls Tryd.prog 8 #[v, .int .i64 k, .int .i64 m] w (RetBools w (chkR l k m) (decOk l k m)) := by
  have HV := Lib.hid hv
  have HTB := Lib.hid ht
  obtain ⟨A, cp, rfl⟩ := hv.len
  clear hv ht
  by_cases hd : decOk l k m = true
  · have HD := Lib.hid hd
    have hbs := shapeOk_b (decOk_shape hd)
    obtain ⟨p, rfl⟩ := Int.eq_ofNat_of_zero_le (show 0 ≤ k by omega)
    obtain ⟨q, rfl⟩ := Int.eq_ofNat_of_zero_le (show 0 ≤ m by omega)
    clear hd
    go_enter Tryd.func8, Tryd.ntmps8
    go_wp2_with fail
    refine (remade_yes _ l p q _ HV.out hln HTB.out h0 HD.out).mono ?_
    rintro e w1 ⟨s, rfl, Bm, Bt, Am, nm, cm, At, nt, ct, vsm, rfl, bM, bT, hBm, hBt, oM, oT, k1⟩
    have hs1 := k1.size
    have HM := Lib.hid oM.seen
    have HT := Lib.hid oT.seen
    have HBM := Lib.hid bM
    have HBT := Lib.hid bT
    clear oM oT bM bT
    go_wp2_with fail
    refine (allAmong_own _ l p q Bm Bt Am At nm cm nt ct _ (HV.out.below k1.to_below) HD.out HBM.out HBT.out HM.out HT.out (HTB.out.below k1.to_below h0) (by omega)).mono ?_
    rintro e w2 ⟨rfl, k2⟩
    go_wp2_with fail
    go_ret2
    exact ⟨by rw [HD.out]; rfl, turn_trans k1 k2 (by omega)⟩
  · have hd' : decOk l k m = false := by simpa using hd
    have HD := Lib.hid hd'
    have HF := Lib.hid (chkR_no hd')
    clear hd hd'
    go_enter Tryd.func8, Tryd.ntmps8
    go_wp2_with fail
    refine (remade_no _ l k m _ HV.out hln HTB.out h0 HD.out).mono ?_
    rintro e w1 ⟨rfl, k1⟩
    go_wp2_with fail
    go_ret2
    exact ⟨by rw [HF.out, HD.out]; rfl, k1⟩

end Go.Proofs.YtbfchebnooanjaaDoor
