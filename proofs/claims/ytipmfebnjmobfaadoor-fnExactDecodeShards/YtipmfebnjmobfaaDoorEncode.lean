/- EncodeShards: the program's. -/
import Derived.Test.YtipmfebnjmobfaaDoorEncMath
import Derived.Test.YtipmfebnjmobfaaDoorJoin
import Derived.Test.YtipmfebnjmobfaaDoorShardWalks
set_option linter.unusedSimpArgs false
set_option linter.unusedVariables false
namespace Go.Proofs.YtipmfebnjmobfaaDoor
open Go.RowKit Go.Shelf G294

attribute [local go_sem] Oper.semAt_some

set_option maxRecDepth 100000 in
set_option maxHeartbeats 4000000 in
theorem encodeShards_own (v : Value) (T : List (List UInt8)) (m : Int) (w : World) (hv : Seen w v (strs T)) (ht : Tab w) (h0 : 1 < w.heap.size) :
    Calls Tryd.prog 34 #[v, .int .i64 m] w (RetShsOk 35 w (encR T m) (encOk T m)) := by
  have HV := Lib.hid hv
  obtain ⟨A, cp, hvv⟩ := hv.len
  rw [strs_length] at hvv
  subst hvv
  by_cases hs : shapeOk T.length m = true
  · have HS := Lib.hid hs
    have hbs := shapeOk_b hs
    obtain ⟨q, rfl⟩ := Int.eq_ofNat_of_zero_le (show 0 ≤ m by omega)
    have HR1 := Lib.hid (codR_yes hs)
    clear hs
    refine (callsIn_wide (n := 5)).1 ?_
    by_cases htx : textsOk T = true
    · have HT := Lib.hid htx
      have HO : Hid (encOk T q = true) := by show encOk T q = true; rw [encOk, HS.out, HT.out]; rfl
      have HR := Lib.hid (encR_yes HO.out)
      have HAT := Lib.hid (textsOk_at htx)
      have hn40 := textsOk_first htx
      clear htx
      generalize hk : T.length = k at *
      have HK := Lib.hid hk
      generalize hnn : (T.getD 0 []).length = n at *
      have HNN := Lib.hid hnn
      clear hk hnn
      have hk8 : 1 ≤ k ∧ k ≤ 8 := by omega
      have hq6 : 1 ≤ q ∧ q ≤ 6 := by omega
      refine callsIn_of_wp_marks Tryd.func34 rfl trivial ?_ rfl
      simp only [Tryd.ntmps34, List.size_toArray, List.length_cons, List.length_nil, Nat.reduceAdd, Nat.reduceSub, Array.replicate_succ, Array.replicate_zero, List.push_toArray, List.append_toArray, List.nil_append, List.cons_append]
      gi_wp2_with fail
      refine ⟨trivial, ?_⟩
      refine (callsIn_wide.2 (codeMatrix_own k q _ ht h0)).mono ?_
      rintro e w1 ⟨v1, vs1, rfl, hM1, k1⟩
      rw [HR1.out] at hM1
      rw [HS.out]
      obtain ⟨g1, cp1, rfl, hg1, hg1', hcp1, hcp1'⟩ := hM1.sliceF (by omega)
      have hs1 := k1.size
      have a1 := turn_alloc w1 (.cells #[.slice (some ⟨g1, 0, none⟩) (k + q) cp1] 60)
      have z1 := World.size_alloc w1 (.cells #[.slice (some ⟨g1, 0, none⟩) (k + q) cp1] 60)
      have c1 := alloc_cell w1 (.slice (some ⟨g1, 0, none⟩) (k + q) cp1) 60
      have hB1 : Below w.heap.size w (w1.alloc (.cells #[.slice (some ⟨g1, 0, none⟩) (k + q) cp1] 60)) := a1.base k1.to_below (by omega) (by omega)
      replace hM1 := hM1.keep a1 (by omega)
      gi_wp2_with fail
      refine ⟨trivial, ?_⟩
      refine (callsIn_wide.2 (equallyLong_any _ T _ (HV.out.below hB1))).mono ?_
      rintro e w' ⟨rfl, rfl⟩
      rw [HT.out]
      generalize (w1.alloc (.cells #[.slice (some ⟨g1, 0, none⟩) (k + q) cp1] 60)) = w2 at *
      have a3 := turn_alloc w2 (.cells #[.slice none 0 0] 27)
      have z3 := World.size_alloc w2 (.cells #[.slice none 0 0] 27)
      have c3 : (w2.alloc (.cells #[.slice none 0 0] 27)).cell? ⟨w1.heap.size, 0, none⟩ = some (.slice (some ⟨g1, 0, none⟩) (k + q) cp1) := cell_turn a3 c1 (by omega)
      gi_wp2_with fail
      refine ⟨trivial, ?_⟩
      refine (callsIn_wide.2 (shardsBy_any _ _ _ _ _)).mono ?_
      rintro e w' ⟨rfl, rfl⟩
      gi_wp2_with fail
      generalize hB1e : w1.heap.size = B1 at *
      obtain ⟨W0, hW0⟩ : ∃ W0, W0 = (((w2.alloc (.cells #[.slice none 0 0] 27)).alloc (.cells #[.slice (some ⟨g1, 0, none⟩) (k + q) cp1] 60)).alloc (.cells #[.slice A k cp] 24)) := ⟨_, rfl⟩
      have bS : Boxed W0 (B1 + 1) 27 (.slice none 0 0) := by
        rw [hW0, ← z1]; exact ((Boxed.new w2 _ _).alloc _).alloc _
      have bM : Boxed W0 (B1 + 1 + 1) 60 (.slice (some ⟨g1, 0, none⟩) (k + q) cp1) := by
        have := (Boxed.new (w2.alloc (.cells #[.slice none 0 0] 27)) 60 (.slice (some ⟨g1, 0, none⟩) (k + q) cp1)).alloc (.cells #[.slice A k cp] 24)
        rw [z3, z1] at this; rw [hW0]; exact this
      have bT : Boxed W0 (B1 + 1 + 1 + 1) 24 (.slice A k cp) := by
        have := Boxed.new ((w2.alloc (.cells #[.slice none 0 0] 27)).alloc (.cells #[.slice (some ⟨g1, 0, none⟩) (k + q) cp1] 60)) 24 (.slice A k cp)
        rw [World.size_alloc, z3, z1] at this; rw [hW0]; exact this
      have hsz : W0.heap.size = B1 + 4 := by rw [hW0]; simp [z1]
      have k0 : TurnIn 0 0 w2 W0 := by
        rw [hW0]; exact turn_trans (turn_trans (turn_alloc _ _) (turn_alloc _ _) (by omega)) (turn_alloc _ _) (by omega)
      have hB0 : Below w.heap.size w W0 := k0.base hB1 (by omega) (by omega)
      have hM0 := hM1.keep k0 (by omega)
      rw [← hW0]
      have HINV : Hid (∀ W W', KeepBut (B1 + 4) (B1 + 1) W0 W → (KeepBut (B1 + 4) (B1 + 1) W W' ∨ Below W.heap.size W W') → KeepBut (B1 + 4) (B1 + 1) W0 W') := fun W W' h h' => by
        rcases h' with h' | h'
        · exact h.trans h'
        · exact h.trans (KeepBut.of_below (h'.mono (by have := h.size; omega)))
      obtain ⟨i0, hi, hz0, hz1, hz2⟩ := info_parts infoShard
      have HM0 := Lib.hid hM0
      have HB0 := Lib.hid hB0
      have HTT := Lib.hid ht
      clear hW0 k0 hM1 c3 z3 a3 c1 hB1 a1 hM0 ht
      refine wpIn_rangeFunc_ownH rfl (by omega) (gf := 124) (lb := #[.pointer (some ⟨B1 + 1 + 1, 0, none⟩), .pointer (some ⟨B1 + 1 + 1 + 1, 0, none⟩)]) rfl trivial (enters_of Tryd.func124 (by kernel_rfl) rfl)
        (shardsBy_stops _ (k + q) k n (B1 + 1 + 1) (B1 + 1 + 1 + 1) (codF k) T (.slice (some ⟨g1, 0, none⟩) (k + q) cp1) (.slice A k cp) W0 (KeepBut (B1 + 4) (B1 + 1)) (KeepBut (B1 + 4) (B1 + 1) W0) HK.out (by omega) (by omega) (by omega) HAT.out (by omega)
          (fun W hW => ⟨⟨(hW.cell (by omega) (by omega)).trans bM.cell, (hW.cell (by omega) (by omega)).trans bT.cell⟩, ⟨(HM0.out.agree hW.size (fun j h1 h2 => hW.block j (by omega) (by omega))).seen, HV.out.below (hW.below HB0.out (by omega) (by omega))⟩, HTT.out.below (hW.below HB0.out (by omega) (by omega)) h0, by have := hW.size; omega⟩)
          (fun W W' h h' => HINV.out W W' h (.inl h')) (fun W W' h h' => HINV.out W W' h (.inr h')) (fun W h => KeepBut.of_below (h.mono (by omega))) (by omega))
        (fun h h' => h.trans h') (KeepBut.putObj (by omega)) (Below.refl _ _) (fun _ => rfl)
        (fun pre W => (∃ v, Boxed W (B1 + 1) 27 v ∧ W.ownsRow (B1 + 4) 35 2 v pre.length (shs pre) ∧ True) ∧ Below w.heap.size w W ∧ B1 + 4 ≤ W.heap.size)
        (fun _ _ _ => False)
        (OwnFrom.and (Own.from (holdsRow_own (B1 + 4) (B1 + 1) 27 35 2 (fun pre : List Sh => pre.length) (fun pre => shs pre) (fun _ _ => True)) _) (OwnFrom.and (ownFrom_below (Nat.le_refl _) (by omega)) (fun s X Y row hs hg hr => Nat.le_trans hs hg.size)))
        (fun _ _ _ _ _ hs _ _ => hs)
        ⟨⟨_, bS, World.ownsRow_nil _ _ _ _, trivial⟩, HB0.out, by omega⟩
        (fun x a' W => ∃ Bx, B1 + 4 ≤ Bx ∧ W.heap[Bx]? = some (.cells #[.int .i64 x.1, .string (str x.2)] 35 (0, 0)) ∧ a' = { tmps := #[.slice A k cp, .int .i64 q, undef, undef, .slice none 0 0, .bool false,
          .pointer (some ⟨B1, 0, none⟩), .bool true, .pointer (some ⟨B1 + 1, 0, none⟩), .pointer (some ⟨Bx, 0, none⟩),
          .tuple #[.agg #[.slice (some ⟨g1, 0, none⟩) (k + q) cp1], .bool true], .slice A k cp, .int .i64 k, .int .i64 q,
          .tuple #[.agg #[.slice (some ⟨g1, 0, none⟩) (k + q) cp1], .bool true], .agg #[.slice (some ⟨g1, 0, none⟩) (k + q) cp1], .bool true, .bool true,
          .bool false, .bool false, .slice A k cp, .bool true, .bool false, .bool false, .agg #[.slice (some ⟨g1, 0, none⟩) (k + q) cp1], .slice A k cp,
          .func (.func 124) #[] #[.pointer (some ⟨B1 + 1 + 1, 0, none⟩), .pointer (some ⟨B1 + 1 + 1 + 1, 0, none⟩)], shV x, undef, undef, undef, undef, undef], defers := [] })
        (fun x a' _ X Y row hs hg hr => by
          obtain ⟨Bx, e1, e2, e3⟩ := hs
          refine ⟨Bx, e1, ?_, e3⟩
          rw [hg.block Bx (Array.getElem?_eq_some_iff.1 e2).1 (fun e => by
            obtain ⟨o, ho, hoc⟩ := (hr Bx e.symm).2
            rw [e2] at ho
            cases ho
            simp [Obj.isCells] at hoc)]
          exact e2)
        ?assign ?body ?done ?stop
      case assign =>
        rintro l pre x W K ⟨⟨v, hv, hrow, _⟩, hBw, hn0⟩ hK
        simp only [shV]
        gi_wp2_with fail
        exact hK _ _ ((KeepsOthers.alloc _ _).from _) (KeepBut.of_below ((Below.refl _ W).alloc hn0 _)) ⟨⟨v, hv.alloc _, hrow.alloc _, trivial⟩, hBw.alloc hBw.size _, by simp; omega⟩ ⟨W.heap.size, hn0, World.alloc_heap_new W _, rfl⟩
      case body =>
        rintro l pre x a' W hl ⟨rr, hr⟩ ⟨⟨v, hv, hrow, _⟩, hBw, hn0⟩ ⟨Bx, hBx, hX, rfl⟩ hlt
        obtain ⟨no, sx⟩ := x
        have hc := hv.cell
        have cX0 : W.cell? ⟨Bx, 0, none⟩ = some (.int .i64 no) := by simp [World.cell?, hX]
        have cX1 : W.cell? ⟨Bx, 1, none⟩ = some (.string (str sx)) := by simp [World.cell?, hX]
        have hnew : ∀ j u, [Value.int .i64 no, Value.string (str sx)][j]? = some u → (W.alloc (.cells #[.int .i64 no, .string (str sx)] 35)).cell? ((⟨W.heap.size, 0, none⟩ : Addr).add j) = some u := by
          intro j u hj
          match j, hj with
          | 0, hj => simp at hj; subst hj; simp [Addr.add_lit]
          | 1, hj => simp at hj; subst hj; simp [Addr.add_lit]
        have HNEW := Lib.hid hnew
        have HROW := Lib.hid hrow
        clear hnew hrow
        simp only [shV]
        gi_wp2_with (gi_at_builtin; refine wpListIn_append_own _ rfl _ _ 27 rfl (B1 + 4) 35 i0 _ 2 24 Tryd.underlying27 hi hz0 hz1 hz2 rfl (by decide) _ pre.length _ rfl (HROW.out.alloc _) ⟨W.heap.size, 0, none⟩ 1 1 [.int .i64 no, .string (str sx)] rfl rfl HNEW.out (by simp [Value.oneCell']) ?b1 ?b2 ?b3 ?_)
        case b1 => unfold maxLen; omega
        case b2 => omega
        case b3 => first | omega | (simp; omega)
        intro v' w3 hown' hgrow _
        obtain ⟨g', cap', rfl⟩ := ownsRow_succ hown'
        obtain ⟨hv1, hv2, hr2, hk2, hb2, hn2⟩ := collect_step (e0 := w.heap.size) hv (by decide) HROW.out hown' hgrow (by omega) (by omega) hn0
        have hc1 := hv1.cell
        have hf1 := hv1.frozen
        have hr3 : (w3.setCell ⟨B1 + 1, 0, none⟩ (.slice (some ⟨g', 0, none⟩) (pre.length + 1) cap')).ownsRow (B1 + 4) 35 2 (.slice (some ⟨g', 0, none⟩) (pre.length + 1) cap') (pre ++ [(no, sx)]).length (shs (pre ++ [(no, sx)])) := by
          rw [shs_append]; simpa [shs] using hr2
        clear hr2 hown' hgrow
        gi_wp2_with fail
        exact ⟨hk2.from _, hb2, ⟨⟨_, hv2, hr3, trivial⟩, hb2.below hBw (by omega) (by omega), hn2⟩⟩
      case done =>
        rintro D ys W hD rfl ⟨⟨v, hv, hrow, _⟩, hBw, hn0⟩ hK
        have hc := hv.cell
        gi_wp2_with fail
        refine ⟨by simp, .inl ⟨_, _, rfl, run_takeDeferred hK, ?_⟩⟩
        have hown := ownsRow_putObj hrow (.deferred none) hK rfl
        have hBe := hBw.trans (belowK_b (w := w) (Nat.le_refl _) W D _ (.deferred none) (by omega) hK rfl rfl)
        refine ⟨_, results_tmp2 rfl _ _ _, v, by rw [HO.out]; rfl, ?_, TurnIn.of_below hBe⟩
        rw [HR.out, encL, HNN.out]
        exact OwnSh.of_made (w := w) (own_base hown (by omega))
      case stop =>
        rintro D c pre W _ _ h _
        exact h.elim
    · have HT : Hid (textsOk T = false) := by show textsOk T = false; simpa using htx
      have HO : Hid (encOk T q = false) := by show encOk T q = false; rw [encOk, HT.out]; simp
      have HR := Lib.hid (encR_no HO.out)
      clear htx
      generalize hk : T.length = k at *
      clear hk
      have hk8 : 1 ≤ k ∧ k ≤ 8 := by omega
      have hq6 : 1 ≤ q ∧ q ≤ 6 := by omega
      refine callsIn_of_wp_marks Tryd.func34 rfl trivial ?_ rfl
      simp only [Tryd.ntmps34, List.size_toArray, List.length_cons, List.length_nil, Nat.reduceAdd, Nat.reduceSub, Array.replicate_succ, Array.replicate_zero, List.push_toArray, List.append_toArray, List.nil_append, List.cons_append]
      gi_wp2_with fail
      refine ⟨trivial, ?_⟩
      refine (callsIn_wide.2 (codeMatrix_own k q _ ht h0)).mono ?_
      rintro e w1 ⟨v1, vs1, rfl, hM1, k1⟩
      rw [HR1.out] at hM1
      rw [HS.out]
      obtain ⟨g1, cp1, rfl, hg1, hg1', hcp1, hcp1'⟩ := hM1.sliceF (by omega)
      have hs1 := k1.size
      have a1 := turn_alloc w1 (.cells #[.slice (some ⟨g1, 0, none⟩) (k + q) cp1] 60)
      have hB1 : Below w.heap.size w (w1.alloc (.cells #[.slice (some ⟨g1, 0, none⟩) (k + q) cp1] 60)) := a1.base k1.to_below (by omega) (by omega)
      clear hM1
      gi_wp2_with fail
      refine ⟨trivial, ?_⟩
      refine (callsIn_wide.2 (equallyLong_any _ T _ (HV.out.below hB1))).mono ?_
      rintro e w' ⟨rfl, rfl⟩
      rw [HT.out]
      gi_wp2_with fail
      refine ⟨_, results_tmp2 rfl _ _ _, .slice none 0 0, by rw [HO.out]; rfl, ?_, TurnIn.of_below hB1⟩
      rw [HR.out]
      exact ⟨World.ownsRow_nil _ _ _ _, Nat.le_refl _, fun g e => by simp [Value.ownBlock] at e⟩
  · have HS : Hid (shapeOk T.length m = false) := by show shapeOk T.length m = false; simpa using hs
    have HO : Hid (encOk T m = false) := by show encOk T m = false; rw [encOk, HS.out]; rfl
    have HR := Lib.hid (encR_no HO.out)
    have HR1 := Lib.hid (codR_no HS.out)
    clear hs
    generalize hk : T.length = k at *
    clear hk
    go_enter Tryd.func34, Tryd.ntmps34
    go_wp2_with fail
    refine (codeMatrix_own k m _ ht h0).mono ?_
    rintro e w1 ⟨v1, vs1, rfl, hM1, k1⟩
    obtain ⟨A1, n1, c1, rfl⟩ := hM1.isSlice
    rw [HS.out]
    have hs1 := k1.size
    have a1 := turn_alloc w1 (.cells #[.slice A1 n1 c1] 60)
    have hB1 : Below w.heap.size w (w1.alloc (.cells #[.slice A1 n1 c1] 60)) := a1.base k1.to_below (by omega) (by omega)
    clear hM1
    go_wp2_with fail
    go_ret2
    refine ⟨.slice none 0 0, by rw [HO.out]; rfl, ?_, TurnIn.of_below hB1⟩
    rw [HR.out]
    exact ⟨World.ownsRow_nil _ _ _ _, Nat.le_refl _, fun g e => by simp [Value.ownBlock] at e⟩

end Go.Proofs.YtipmfebnjmobfaaDoor
