/- MsrRow, the program's and the model's. -/
import Derived.Test.YtlkoafnlklhaeaaDoorNodeRow
set_option linter.unusedSimpArgs false
set_option linter.unusedVariables false
namespace G294
open Go Go.RowKit
/-- a literal of two bytes -/
theorem seen_duo (w : World) (x y : UInt8) (T : TypeId) : Seen (w.alloc (.cells #[.int .u8 (x.toNat : Int), .int .u8 (y.toNat : Int)] T)) (.slice (some ⟨w.heap.size, 0, none⟩) 2 2) (bys [x, y]) := by
  refine ⟨_, _, rfl, by simp [bys], by unfold maxLen; omega, fun _ => ⟨w.heap.size, 0, rfl, by simp, fun i u hu => ?_⟩⟩
  match i, hu with
  | 0, hu => simp only [bys, List.map_cons, List.getElem?_cons_zero, Option.some.injEq] at hu; subst hu; exact alloc_duo0 _ _ _ _
  | 1, hu => simp only [bys, List.map_cons, List.getElem?_cons_succ, List.getElem?_cons_zero, Option.some.injEq] at hu; subst hu; exact alloc_duo1 _ _ _ _
  | i + 2, hu => simp [bys] at hu
theorem seen_one (w : World) (x : UInt8) (T : TypeId) : Seen (w.alloc (.cells #[.int .u8 (x.toNat : Int)] T)) (.slice (some ⟨w.heap.size, 0, none⟩) 1 1) (bys [x]) := by
  refine ⟨_, _, rfl, by simp [bys], by unfold maxLen; omega, fun _ => ⟨w.heap.size, 0, rfl, by simp, fun i u hu => ?_⟩⟩
  match i, hu with
  | 0, hu => simp only [bys, List.map_cons, List.getElem?_cons_zero, Option.some.injEq] at hu; subst hu; exact alloc_cell _ _ _
  | i + 1, hu => simp [bys] at hu
end G294
namespace Go.Proofs.YtlkoafnlklhaeaaDoor
open Go.RowKit G294

set_option maxRecDepth 100000 in
set_option maxHeartbeats 2000000 in
theorem msrRow_own (n k i : Int) (w : World) (ht : Tab w) (h0 : 1 < w.heap.size) :
    Calls Tryd.prog 14 #[msrV n k, .int .i64 i] w (RetBytesOk 5 w (rowR n k i) (nodeOk n k i)) := by
  have a1 := turn_alloc w (.cells #[.int .i64 n, .int .i64 k] 27)
  have l1 := World.size_alloc w (.cells #[.int .i64 n, .int .i64 k] 27)
  have cn := alloc_duo0 w (.int .i64 n) (.int .i64 k) 27
  have ck := alloc_duo1 w (.int .i64 n) (.int .i64 k) 27
  by_cases h : nodeOk n k i = true
  · have HO := Lib.hid h
    obtain ⟨hm, hi0, hin⟩ := nodeOk_b h
    obtain ⟨a, rfl, h1, h2, hn1, hn2, eA, eD, eB, -⟩ := msr_alpha hm
    obtain ⟨j, rfl⟩ := Int.eq_ofNat_of_zero_le hi0
    have HM := Lib.hid hm
    have HA := Lib.hid eA
    have HR := Lib.hid (rowR_yes h)
    have HP := Lib.hid (pRows_two a j)
    clear h hm eA eD eB
    go_enter Tryd.func14, Tryd.ntmps14
    go_wp2_with fail
    refine (hasNode_any n ((a : Int) + 1) j _).mono ?_
    rintro e w2 ⟨rfl, k2⟩
    rw [HO.out]
    have hs2 := k2.size
    replace cn := cell_turn k2 cn (by omega)
    replace ck := cell_turn k2 ck (by omega)
    go_wp2_with fail
    refine (msrSizes_any n ((a : Int) + 1) _).mono ?_
    rintro e w3 ⟨rfl, k3⟩
    rw [HM.out, HA.out]
    have hs3 := k3.size
    have hb3 := (turn_trans (turn_trans a1 k2 (by omega)) k3 (by omega)).to_below
    have HT := Lib.hid (ht.below hb3 h0)
    go_wp2_with fail
    refine (nodeNumber_any j _ (by omega) HT.out).mono ?_
    rintro e w' ⟨rfl, rfl⟩
    go_wp2_with fail
    refine (nodeFactor_any j a _ (by omega) (by omega) HT.out).mono ?_
    rintro e w' ⟨rfl, rfl⟩
    have hsn : Seen (w3.alloc (.cells #[.int .u8 1, .int .u8 ((nodF j a).toNat : Int)] 5)) (.slice (some ⟨w3.heap.size, 0, none⟩) 2 2) (bys [1, nodF j a]) := seen_duo w3 1 (nodF j a) 5
    have HSN := Lib.hid hsn
    have k4 := turn_alloc w3 (.cells #[.int .u8 1, .int .u8 ((nodF j a).toNat : Int)] 5)
    have hs4 := k4.size
    have HT4 := Lib.hid (HT.out.below k4.to_below (by have := hb3.size; omega))
    clear hsn
    go_wp2_with fail
    refine (powerRow_own (nodX j) a _ [1, nodF j a] _ HSN.out (by omega) (by simp) HT4.out (by have := hb3.size; omega)).mono ?_
    rintro e w5 ⟨v, rfl, hO, k5⟩
    have hs5 := k5.size
    rw [HP.out] at hO
    have HOO := Lib.hid hO
    obtain ⟨gv, cv, rfl, -⟩ := hO.slice (by rw [rowL_length]; omega)
    clear hO
    go_wp2_with fail
    refine bodyPost_ret (v := .tuple #[.slice (some ⟨gv, 0, none⟩) (rowL a j).length cv, .bool true]) (by simp [results, Tryd.results14, go_sem]) rfl ?_
    refine ⟨_, by rw [HO.out], by rw [HR.out]; exact HOO.out.wider (by have := hb3.size; omega) (Nat.le_refl _) (Nat.le_refl _), ?_⟩
    exact turn_trans (turn_trans (TurnIn.of_below hb3) k4 (by omega)) k5 (by omega)
  · have HO : Hid (nodeOk n k i = false) := by show nodeOk n k i = false; simpa using h
    have HR := Lib.hid (rowR_no HO.out)
    clear h
    go_enter Tryd.func14, Tryd.ntmps14
    go_wp2_with fail
    refine (hasNode_any n k i _).mono ?_
    rintro e w2 ⟨rfl, k2⟩
    rw [HO.out]
    go_wp2_with fail
    refine bodyPost_ret (v := .tuple #[.slice none 0 0, .bool false]) (by simp [results, Tryd.results14, go_sem]) rfl ?_
    exact ⟨_, by rw [HO.out], by rw [HR.out]; exact OwnBytes.nil _ _ _, turn_trans a1 k2 (by omega)⟩

set_option maxRecDepth 100000 in
set_option maxHeartbeats 2000000 in
theorem l5Row_own (n : Int) (a i : Nat) (w : World) (hi : i ≤ 1000) (h1 : 1 ≤ a) (ha : a ≤ 1000) : Calls Tryd.prog 68 #[msrV n ((a : Int) + 1), .int .i64 i] w (RetBytes 5 w (rowL a i)) := by
  have a1 := turn_alloc w (.cells #[.int .i64 n, .int .i64 ((a : Int) + 1)] 27)
  have l1 := World.size_alloc w (.cells #[.int .i64 n, .int .i64 ((a : Int) + 1)] 27)
  have cn := alloc_duo0 w (.int .i64 n) (.int .i64 ((a : Int) + 1)) 27
  have ck := alloc_duo1 w (.int .i64 n) (.int .i64 ((a : Int) + 1)) 27
  go_enter Tryd.func68, Tryd.ntmps68
  go_wp2_with fail
  refine (l5Short_own n a i _ hi ha).mono ?_
  rintro e w1 ⟨s, rfl, hS0, k1⟩
  have hs1 := k1.size
  obtain ⟨bs, cs, rfl, hbs1, hbs2, hcs1, hcs2⟩ := hS0.slice (by rw [shortL_length]; omega)
  rw [shortL_length] at hcs1 ⊢
  have HS0 := Lib.hid hS0
  replace cn := cell_turn k1 cn (by omega)
  replace ck := cell_turn k1 ck (by omega)
  have hb1 := (turn_trans a1 k1 (by omega)).to_below
  have hlen := Lib.hid (shortL_length a i)
  clear hS0
  generalize (w.alloc (.cells #[.int .i64 n, .int .i64 ((a : Int) + 1)] 27)) = w0 at *
  go_wp2_with fail
  have hS : (fun W : World => W.cell? ⟨w.heap.size, 0, none⟩ = some (.int .i64 n) ∧ W.cell? ⟨w.heap.size, 1, none⟩ = some (.int .i64 ((a : Int) + 1))) w1.drew := ⟨cn, ck⟩
  refine wp_region_tail (fun W : World => W.cell? ⟨w.heap.size, 0, none⟩ = some (.int .i64 n) ∧ W.cell? ⟨w.heap.size, 1, none⟩ = some (.int .i64 ((a : Int) + 1))) 9 (by kernel_rfl) ?_
  refine wpAnyT_take (i := 1) (oi := _) (v := ?v1) rfl (by kernel_rfl) (by kernel_rfl) (by kernel_rfl) (by kernel_rfl) (fun _ _ _ h => h) (Or.inl ⟨by rfl, ?hy1⟩) hS ?rest1
  case hy1 => (intro W hW; obtain ⟨e1, e2⟩ := hW; go_simp; try with_reducible rfl)
  simp only [Act.put, List.setIfInBounds_toArray, List.set_cons_zero, List.set_cons_succ]
  refine wpAnyT_take (i := 3) (oi := _) (v := ?v3) rfl (by kernel_rfl) (by kernel_rfl) (by kernel_rfl) (by kernel_rfl) (fun _ _ _ h => h) (Or.inl ⟨by rfl, ?hy3⟩) hS ?rest3
  case hy3 => (intro W hW; obtain ⟨e1, e2⟩ := hW; go_simp; try with_reducible rfl)
  simp only [Act.put, List.setIfInBounds_toArray, List.set_cons_zero, List.set_cons_succ]
  refine wpAnyT_take (i := 4) (oi := _) (v := ?v4) rfl (by kernel_rfl) (by kernel_rfl) (by kernel_rfl) (by kernel_rfl) (fun _ _ _ h => h) (Or.inl ⟨by rfl, ?hy4⟩) hS ?rest4
  case hy4 => (intro W hW; obtain ⟨e1, e2⟩ := hW; go_simp; try with_reducible rfl)
  simp only [Act.put, List.setIfInBounds_toArray, List.set_cons_zero, List.set_cons_succ]
  refine wpAnyT_take (i := 6) (oi := _) (v := ?v6) rfl (by kernel_rfl) (by kernel_rfl) (by kernel_rfl) (by kernel_rfl) (fun _ _ _ h => h) (Or.inl ⟨by rfl, ?hy6⟩) hS ?rest6
  case hy6 => (intro W hW; obtain ⟨e1, e2⟩ := hW; go_simp; try with_reducible rfl)
  simp only [Act.put, List.setIfInBounds_toArray, List.set_cons_zero, List.set_cons_succ]
  have kA : TurnIn 0 0 w1 (w1.alloc (.cells #[] 5)).drew := TurnIn.of_below ((Below.refl _ _).alloc (Nat.le_refl _) _).drew
  have zA : (w1.alloc (.cells #[] 5)).drew.heap.size = w1.heap.size + 1 := World.size_alloc _ _
  have hown0 : (w1.alloc (.cells #[] 5)).drew.ownsRow w1.heap.size 5 1 (.slice (some ⟨w1.heap.size, 0, none⟩) 0 0) 0 [] := (World.ownsRow_lit w1 #[] 0 (Nat.le_refl _) (by unfold maxLen; omega) rfl).drew
  have hSA := HS0.out.keep kA (by omega)
  refine wpAnyT_one (i := 0) (o := _) rfl (by kernel_rfl) (fun K hK => ?_)
  go_simp
  refine hK.out _ _ (fun _ => ⟨cell_turn kA cn (by omega), cell_turn kA ck (by omega)⟩) ?_
  clear hK K hS
  try simp only [Act.put, List.setIfInBounds_toArray, List.set_cons_zero, List.set_cons_succ]
  refine wpAnyT_one (i := 2) (o := _) rfl (by kernel_rfl) (fun K hK => ?_)
  refine step_appendN (by rfl) _ _ _ (by rfl) w1.heap.size 5 _ _ Tryd.underlying24 infoByte rfl _ 0 [] (by rfl) hown0 ⟨bs, 0, none⟩ a cs (bys (shortL a i)) (by rfl) (by simp) (fun j y hj => by have := hSA.1.cells (g := bs) rfl j y hj; exact this) (bys_oneC _) (by omega) (by omega) (by omega) ?_
  intro u2 w2 hown2 hg2 hv2
  obtain ⟨C2, m2, d2, rfl⟩ := own_isSlice hown2
  have k2 : TurnIn 0 0 w1 w2 := turn_trans' kA hg2 (fun g e => by simp [Value.ownBlock] at e; omega)
  have hs2 := k2.size
  have hO2 : OwnBytes 5 w2 w1.heap.size w2.heap.size (.slice C2 m2 d2) (shortL a i) := ⟨by rw [shortL_length]; simpa using hown2, Nat.le_refl _, fun g e => (hown2.lt g e).2⟩
  refine hK.out _ _ (fun _ => ⟨cell_turn k2 cn (by omega), cell_turn k2 ck (by omega)⟩) ?_
  clear hK K hown2 hg2 hv2
  try simp only [Act.put, List.setIfInBounds_toArray, List.set_cons_zero, List.set_cons_succ]
  refine wpAnyT_one (i := 5) (o := _) rfl (by kernel_rfl) (fun K hK => ?_)
  go_simp
  refine (l5F_any n a i _ hi ha).mono ?_
  rintro e w3 ⟨rfl, k3⟩
  have hs3 := k3.size
  have k3' := turn_trans k2 k3 (by omega)
  refine hK.out _ _ (fun _ => ⟨cell_turn k3' cn (by omega), cell_turn k3' ck (by omega)⟩) ?_
  clear hK K
  try simp only [Act.put, List.setIfInBounds_toArray, List.set_cons_zero, List.set_cons_succ]
  refine wpAnyT_one (i := 7) (o := _) rfl (by kernel_rfl) (fun K hK => ?_)
  go_simp
  refine (l1Scale_any (nodF i a) _ (shortL a i) _ (by have := (HS0.out.keep k3' (by omega)).seen; rwa [hlen.out] at this) (by rw [hlen.out]; omega)).mono ?_
  rintro e w4 ⟨v4, rfl, hown4, hb4⟩
  have k4 := TurnIn.of_below hb4
  have hs4 := k4.size
  have k4' := turn_trans k3' k4 (by omega)
  have hO4 : OwnBytes 5 w4 w3.heap.size w4.heap.size v4 (scaleL (nodF i a) (shortL a i)) := ⟨by simpa using hown4, Nat.le_refl _, fun g e => (hown4.lt g e).2⟩
  obtain ⟨b4, c4, rfl, hb41, hb42, hc41, hc42⟩ := hO4.slice (by simp [scaleL]; omega)
  refine hK.out _ _ (fun _ => ⟨cell_turn k4' cn (by omega), cell_turn k4' ck (by omega)⟩) ?_
  clear hK K hown4 hb4
  try simp only [Act.put, List.setIfInBounds_toArray, List.set_cons_zero, List.set_cons_succ]
  have hO2' := (hO2.keep k3 (by omega)).keep k4 (by omega)
  have hl4 : (scaleL (nodF i a) (shortL a i)).length = a := by simp [scaleL]
  rw [hl4] at hc41 hO4 ⊢
  refine wpAnyT_one (i := 8) (o := _) rfl (by kernel_rfl) (fun K hK => ?_)
  refine step_appendN (by rfl) _ _ _ (by rfl) w1.heap.size 5 _ _ Tryd.underlying24 infoByte rfl _ a (bys (shortL a i)) (by rfl) (by have := hO2'.1; rwa [hlen.out] at this) ⟨b4, 0, none⟩ a c4 (bys (scaleL (nodF i a) (shortL a i))) (by rfl) (by simp [scaleL]) (fun j y hj => by have := hO4.1.cells (g := b4) rfl j y hj; exact this) (bys_oneC _) (by omega) (by omega) (by omega) ?_
  intro u5 w5 hown5 hg5 hv5
  obtain ⟨C5, m5, d5, rfl⟩ := own_isSlice hown5
  have k5 : TurnIn 0 0 w1 w5 := turn_trans' k4' hg5 (fun g e => (hO2'.1.lt g e).1)
  have hs5 := k5.size
  refine hK.out _ _ (fun _ => ⟨cell_turn k5 cn (by omega), cell_turn k5 ck (by omega)⟩) ?_
  clear hK K hg5 hv5
  try simp only [Act.put, List.setIfInBounds_toArray, List.set_cons_zero, List.set_cons_succ]
  have HO5 := Lib.hid hown5
  have HK5 := Lib.hid k5
  clear hown5 k5
  refine wpAnyT_one (i := 9) (o := _) rfl (by kernel_rfl) (fun K hK => ?_)
  go_simp
  refine hK.out _ _ (fun h => absurd rfl h) ?_
  clear hK K
  refine wpAnyT_done (by kernel_rfl) ?_ _
  simp only [Exit.inBlock, Exit.then]
  go_wp2_with fail
  go_ret
  refine ⟨_, rfl, ⟨?_, Nat.le_refl _, fun g e => (HO5.out.lt g e).2⟩, turn_trans (TurnIn.of_below hb1) HK5.out (by omega)⟩
  rw [rowL_length]
  have e : bys (rowL a i) = bys (shortL a i) ++ bys (scaleL (nodF i a) (shortL a i)) := bys_append _ _
  rw [e]
  exact own_base HO5.out (by have := hb1.size; omega)

set_option maxRecDepth 100000 in
set_option maxHeartbeats 2000000 in
theorem sMsrRow_own (n k i : Int) (w : World) : Calls Tryd.prog 12 #[msrV n k, .int .i64 i] w (RetBytesOk 5 w (rowR n k i) (nodeOk n k i)) := by
  have a1 := turn_alloc w (.cells #[.int .i64 n, .int .i64 k] 27)
  have l1 := World.size_alloc w (.cells #[.int .i64 n, .int .i64 k] 27)
  have cn := alloc_duo0 w (.int .i64 n) (.int .i64 k) 27
  have ck := alloc_duo1 w (.int .i64 n) (.int .i64 k) 27
  by_cases hm : msrOk n k = true
  · have HM := Lib.hid hm
    have hmb := msrOk_b hm
    by_cases h : nodeOk n k i = true
    · have HO := Lib.hid h
      obtain ⟨hm, hi0, hin⟩ := nodeOk_b h
      obtain ⟨a, rfl, h1, h2, hn1, hn2, eA, eD, eB, -⟩ := msr_alpha hm
      obtain ⟨j, rfl⟩ := Int.eq_ofNat_of_zero_le hi0
      have HI : Hid (inB (j : Int) 0 (n - 1) = true) := by show inB _ _ _ = true; simp [inB]; omega
      have HR := Lib.hid (rowR_yes h)
      clear h hm eA eD eB
      go_enter Tryd.func12, Tryd.ntmps12
      go_wp2_with fail
      refine (sGoodMsr_any n ((a : Int) + 1) _).mono ?_
      rintro e w2 ⟨rfl, k2⟩
      rw [HM.out]
      have hs2 := k2.size
      replace cn := cell_turn k2 cn (by omega)
      replace ck := cell_turn k2 ck (by omega)
      go_wp2_with fail
      refine (l1In_any _ _ _ _).mono ?_
      rintro e w' ⟨rfl, rfl⟩
      rw [HI.out]
      go_wp2_with fail
      refine (l5Row_own n a j _ (by omega) h1 (by omega)).mono ?_
      rintro e w3 ⟨v, rfl, hO, k3⟩
      have hs3 := k3.size
      have HOO := Lib.hid hO
      obtain ⟨gv, cv, rfl, -⟩ := hO.slice (by rw [rowL_length]; omega)
      clear hO
      go_wp2_with fail
      refine bodyPost_ret (v := .tuple #[.slice (some ⟨gv, 0, none⟩) (rowL a j).length cv, .bool true]) (by simp [results, Tryd.results12, go_sem]) rfl ?_
      exact ⟨_, by rw [HO.out], by rw [HR.out]; exact HOO.out.wider (by omega) (Nat.le_refl _) (Nat.le_refl _), turn_trans (turn_trans a1 k2 (by omega)) k3 (by omega)⟩
    · have HO : Hid (nodeOk n k i = false) := by show nodeOk n k i = false; simpa using h
      have HI : Hid (inB i 0 (n - 1) = false) := by
        show inB _ _ _ = false
        have h2 := HO.out
        simp only [nodeOk, HM.out, Bool.true_and, decide_eq_false_iff_not] at h2
        simp only [inB, decide_eq_false_iff_not]; omega
      have HR := Lib.hid (rowR_no HO.out)
      clear h hm
      go_enter Tryd.func12, Tryd.ntmps12
      go_wp2_with fail
      refine (sGoodMsr_any n k _).mono ?_
      rintro e w2 ⟨rfl, k2⟩
      rw [HM.out]
      have hs2 := k2.size
      replace cn := cell_turn k2 cn (by omega)
      go_wp2_with fail
      refine (l1In_any _ _ _ _).mono ?_
      rintro e w' ⟨rfl, rfl⟩
      rw [HI.out]
      go_wp2_with fail
      refine bodyPost_ret (v := .tuple #[.slice none 0 0, .bool false]) (by simp [results, Tryd.results12, go_sem]) rfl ?_
      exact ⟨_, by rw [HO.out], by rw [HR.out]; exact OwnBytes.nil _ _ _, turn_trans a1 k2 (by omega)⟩
  · have HM : Hid (msrOk n k = false) := by show msrOk n k = false; simpa using hm
    have HO : Hid (nodeOk n k i = false) := by show nodeOk n k i = false; simp only [nodeOk, HM.out, Bool.false_and]
    have HR := Lib.hid (rowR_no HO.out)
    clear hm
    go_enter Tryd.func12, Tryd.ntmps12
    go_wp2_with fail
    refine (sGoodMsr_any n k _).mono ?_
    rintro e w2 ⟨rfl, k2⟩
    rw [HM.out]
    go_wp2_with fail
    refine bodyPost_ret (v := .tuple #[.slice none 0 0, .bool false]) (by simp [results, Tryd.results12, go_sem]) rfl ?_
    exact ⟨_, by rw [HO.out], by rw [HR.out]; exact OwnBytes.nil _ _ _, turn_trans a1 k2 (by omega)⟩

end Go.Proofs.YtlkoafnlklhaeaaDoor
