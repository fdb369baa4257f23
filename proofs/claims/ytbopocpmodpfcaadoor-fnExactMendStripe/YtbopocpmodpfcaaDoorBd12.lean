/- Joined texts: Add2. -/
import Derived.Test.YtbopocpmodpfcaaDoorBd11
set_option linter.unusedSimpArgs false
set_option linter.unusedVariables false
/- AddStripes, the program's. -/
namespace G294
open Go Go.RowKit
/-- the cells of two boxes and of a result's box behind them, as three blocks made one behind the other -/
theorem three_boxes (w : World) (a b c d p q : Value) (T : TypeId) :
    (((w.alloc (.cells #[a, b] T)).alloc (.cells #[c, d] T)).alloc (.cells #[p, q] T)).cell? ⟨w.heap.size, 0, none⟩ = some a ∧
    (((w.alloc (.cells #[a, b] T)).alloc (.cells #[c, d] T)).alloc (.cells #[p, q] T)).cell? ⟨w.heap.size, 1, none⟩ = some b ∧
    Kept (((w.alloc (.cells #[a, b] T)).alloc (.cells #[c, d] T)).alloc (.cells #[p, q] T)) (w.heap.size + 1) (w.heap.size + 2) c d p q ∧
    (((w.alloc (.cells #[a, b] T)).alloc (.cells #[c, d] T)).alloc (.cells #[p, q] T)).heap.size = w.heap.size + 3 ∧
    TurnIn 0 0 w (((w.alloc (.cells #[a, b] T)).alloc (.cells #[c, d] T)).alloc (.cells #[p, q] T)) := by
  have a1 := turn_alloc w (.cells #[a, b] T)
  have a2 := turn_alloc (w.alloc (.cells #[a, b] T)) (.cells #[c, d] T)
  have a3 := turn_alloc ((w.alloc (.cells #[a, b] T)).alloc (.cells #[c, d] T)) (.cells #[p, q] T)
  have k23 := turn_trans a2 a3 (by omega)
  have y0 := cell_turn a3 (alloc_duo0 (w.alloc (.cells #[a, b] T)) c d T) (alloc_lt _ _)
  have y1 := cell_turn a3 (alloc_duo1 (w.alloc (.cells #[a, b] T)) c d T) (alloc_lt _ _)
  have r0 := alloc_duo0 ((w.alloc (.cells #[a, b] T)).alloc (.cells #[c, d] T)) p q T
  have r1 := alloc_duo1 ((w.alloc (.cells #[a, b] T)).alloc (.cells #[c, d] T)) p q T
  have f0 := alloc_frz ((w.alloc (.cells #[a, b] T)).alloc (.cells #[c, d] T)) #[p, q] T 0
  have f1 := alloc_frz ((w.alloc (.cells #[a, b] T)).alloc (.cells #[c, d] T)) #[p, q] T 1
  rw [World.size_alloc] at y0 y1
  rw [World.size_alloc, World.size_alloc] at r0 r1 f0 f1
  exact ⟨cell_turn k23 (alloc_duo0 w a b T) (alloc_lt _ _), cell_turn k23 (alloc_duo1 w a b T) (alloc_lt _ _), ⟨y0, y1, r0, r1, f0, f1⟩, by simp, turn_trans a1 k23 (by omega)⟩
end G294
namespace Go.Proofs.YtbopocpmodpfcaaDoor
open Go.RowKit G294

set_option maxRecDepth 100000 in
set_option maxHeartbeats 4000000 in
theorem addStripes_own (v u v2 u2 : Value) (a q : Strp) (w : World) (hv : Seen w v (strs a.1)) (hu : Seen w u (strs a.2)) (hv2 : Seen w v2 (strs q.1)) (hu2 : Seen w u2 (strs q.2)) (ht : Tab w) (h0 : 0 < w.heap.size) :
    Calls Tryd.prog 15 #[.agg #[v, u], .agg #[v2, u2]] w (RetTOk 9 w (sadR a q) (sadOk a q)) := by
  obtain ⟨A, c, hvv⟩ := hv.len
  obtain ⟨B, d, huu⟩ := hu.len
  obtain ⟨A2, c2, hvv2⟩ := hv2.len
  obtain ⟨B2, d2, huu2⟩ := hu2.len
  rw [strs_length] at hvv huu hvv2 huu2
  subst hvv huu hvv2 huu2
  obtain ⟨n, hn⟩ : ∃ n, n = a.1.length := ⟨_, rfl⟩
  obtain ⟨m, hm⟩ : ∃ m, m = a.2.length := ⟨_, rfl⟩
  obtain ⟨n2, hn2⟩ : ∃ n, n = q.1.length := ⟨_, rfl⟩
  obtain ⟨m2, hm2⟩ : ∃ m, m = q.2.length := ⟨_, rfl⟩
  have HN := Lib.hid hn
  have HM := Lib.hid hm
  have HN2 := Lib.hid hn2
  have HM2 := Lib.hid hm2
  rw [← hn] at hv ⊢
  rw [← hm] at hu ⊢
  rw [← hn2] at hv2 ⊢
  rw [← hm2] at hu2 ⊢
  clear hn hm hn2 hm2
  obtain ⟨x0, x1, hK, z3, k3⟩ := three_boxes w (.slice A n c) (.slice B m d) (.slice A2 n2 c2) (.slice B2 m2 d2) (.slice none 0 0) (.slice none 0 0) 25
  have HV := Lib.hid (hv.touch k3)
  have HU := Lib.hid (hu.touch k3)
  have HV2 := Lib.hid (hv2.touch k3)
  have HU2 := Lib.hid (hu2.touch k3)
  have HTT := Lib.hid ht
  have HC := Lib.hid (sameShape_any _ _ _ _ a q _ HV.out HU.out HV2.out HU2.out)
  clear hv hu hv2 hu2 ht
  obtain ⟨y0, y1, r0, r1, f0, f1⟩ := hK
  by_cases h : sadOk a q = true
  · have HO := Lib.hid h
    obtain ⟨h1, h2, h3, h4, h5⟩ := sadOk_b h
    have b1 := strpOk_b h1
    have HR : Hid (sadR a q = (textsF n fun i => plusL (a.1.getD i []) 1 (q.1.getD i []), textsF m fun i => plusL (a.2.getD i []) 1 (q.2.getD i []))) := Lib.hid (by rw [sadR_yes h, HN.out, HM.out]; rfl)
    have eg := enters_of Tryd.func58 (by kernel_rfl) rfl
    have h40 := strp_len40 h1
    have HS1 : Hid (∀ W i, Below ((((w.alloc (.cells #[.slice A n c, .slice B m d] 25)).alloc (.cells #[.slice A2 n2 c2, .slice B2 m2 d2] 25)).alloc (.cells #[.slice none 0 0, .slice none 0 0] 25))).heap.size ((((w.alloc (.cells #[.slice A n c, .slice B m d] 25)).alloc (.cells #[.slice A2 n2 c2, .slice B2 m2 d2] 25)).alloc (.cells #[.slice none 0 0, .slice none 0 0] 25))) W → i < n → Calls Tryd.prog 58 #[.agg #[.slice A n c, .slice A2 n2 c2], .int .i64 i] W (RetStr W (plusL (a.1.getD i []) 1 (q.1.getD i [])))) := Lib.hid (fun W i hb hi => by
      have hi' : i < a.1.length := by rw [← HN.out]; exact hi
      have hj' : i < q.1.length := by rw [← h3]; exact hi'
      exact sumText_own _ _ a.1 q.1 i W (HV.out.below hb) (HV2.out.below hb) hi' hj' (by rw [strp_len1 h1 hi', strp_len1 h2 hj', h5]) (by rw [strp_len1 h1 hi']; omega) (HTT.out.below ((TurnIn.of_below hb).base k3.to_below k3.size (by omega)) h0) (by have := hb.size; omega))
    have HS2 : Hid (∀ W i, Below ((((w.alloc (.cells #[.slice A n c, .slice B m d] 25)).alloc (.cells #[.slice A2 n2 c2, .slice B2 m2 d2] 25)).alloc (.cells #[.slice none 0 0, .slice none 0 0] 25))).heap.size ((((w.alloc (.cells #[.slice A n c, .slice B m d] 25)).alloc (.cells #[.slice A2 n2 c2, .slice B2 m2 d2] 25)).alloc (.cells #[.slice none 0 0, .slice none 0 0] 25))) W → i < m → Calls Tryd.prog 58 #[.agg #[.slice B m d, .slice B2 m2 d2], .int .i64 i] W (RetStr W (plusL (a.2.getD i []) 1 (q.2.getD i [])))) := Lib.hid (fun W i hb hi => by
      have hi' : i < a.2.length := by rw [← HM.out]; exact hi
      have hj' : i < q.2.length := by rw [← h4]; exact hi'
      exact sumText_own _ _ a.2 q.2 i W (HU.out.below hb) (HU2.out.below hb) hi' hj' (by rw [strp_len2 h1 hi', strp_len2 h2 hj', h5]) (by rw [strp_len2 h1 hi']; omega) (HTT.out.below ((TurnIn.of_below hb).base k3.to_below k3.size (by omega)) h0) (by have := hb.size; omega))
    have hnn : n ≤ 16 ∧ m ≤ 4 := by have e1 := HN.out; have e2 := HM.out; omega
    rw [HO.out, HR.out]
    rw [HO.out] at HC
    clear h h1 h2 h3 h4 h5 b1 h40
    go_enter Tryd.func15, Tryd.ntmps15
    go_wp2_with fail
    generalize ((((w.alloc (.cells #[.slice A n c, .slice B m d] 25)).alloc (.cells #[.slice A2 n2 c2, .slice B2 m2 d2] 25)).alloc (.cells #[.slice none 0 0, .slice none 0 0] 25))) = w3 at *
    have hz3 : w.heap.size + 3 ≤ w3.heap.size := by omega
    clear z3
    refine HC.out.mono ?_
    rintro e w4 ⟨rfl, k4⟩
    have s4 := k4.size
    replace x0 := cell_turn k4 x0 (by omega)
    replace x1 := cell_turn k4 x1 (by omega)
    replace y0 := cell_turn k4 y0 (by omega)
    replace y1 := cell_turn k4 y1 (by omega)
    replace r0 := cell_turn k4 r0 (by omega)
    replace r1 := cell_turn k4 r1 (by omega)
    replace f0 := frozen_turn k4 f0 (by omega)
    replace f1 := frozen_turn k4 f1 (by omega)
    have k34 := turn_trans k3 k4 (by omega)
    have HB4 := Lib.hid k4.to_below
    have HX : Hid (∀ W, TurnIn 0 0 w4 W → (W.cell? ⟨w.heap.size, 0, none⟩ = some (.slice A n c) ∧ W.cell? ⟨w.heap.size, 1, none⟩ = some (.slice B m d) ∧ W.cell? ⟨w.heap.size + 1, 0, none⟩ = some (.slice A2 n2 c2) ∧ W.cell? ⟨w.heap.size + 1, 1, none⟩ = some (.slice B2 m2 d2))) := Lib.hid (fun W t => ⟨cell_turn t x0 (by omega), cell_turn t x1 (by omega), cell_turn t y0 (by omega), cell_turn t y1 (by omega)⟩)
    have hX0 := HX.out w4.drew (TurnIn.of_below (Below.refl _ _).drew)
    have HA1 : Hid (TextAt Tryd.prog 58 (.agg #[.slice A n c, .slice A2 n2 c2]) n (fun i => plusL (a.1.getD i []) 1 (q.1.getD i [])) w4.drew) := Lib.hid (fun W i hb hi => HS1.out W i (HB4.out.drew.trans (hb.mono (show w3.heap.size ≤ w4.heap.size from s4))) hi)
    have HT1 := Lib.hid (textsBy_own n 58 (.agg #[.slice A n c, .slice A2 n2 c2]) (fun i => plusL (a.1.getD i []) 1 (q.1.getD i [])) w4.drew eg HA1.out (by omega))
    clear HC
    go_wp2_with fail
    go_region_held3 (fun W => W.cell? ⟨w.heap.size, 0, none⟩ = some (.slice A n c) ∧ W.cell? ⟨w.heap.size, 1, none⟩ = some (.slice B m d) ∧ W.cell? ⟨w.heap.size + 1, 0, none⟩ = some (.slice A2 n2 c2) ∧ W.cell? ⟨w.heap.size + 1, 1, none⟩ = some (.slice B2 m2 d2))
      (first | exact hX0 | exact hX5 | exact hX6 | exact ⟨(cell_set_other _ _ _ _ (by omega)).trans ((cell_set_other _ _ _ _ (by omega)).trans hX6.1), (cell_set_other _ _ _ _ (by omega)).trans ((cell_set_other _ _ _ _ (by omega)).trans hX6.2.1), (cell_set_other _ _ _ _ (by omega)).trans ((cell_set_other _ _ _ _ (by omega)).trans hX6.2.2.1), (cell_set_other _ _ _ _ (by omega)).trans ((cell_set_other _ _ _ _ (by omega)).trans hX6.2.2.2)⟩)
      (first
        | (go_at_call 52; (with_reducible refine HT1.out.mono ?_); rintro e w5 ⟨u5, rfl, o5, k5'⟩; obtain ⟨A5, n5, c5, rfl⟩ := o5.isSlice; have k5 := undrew k5'; have s5 := k5.size; have hX5 := HX.out _ k5; have HA2 : Hid (TextAt Tryd.prog 58 (.agg #[.slice B m d, .slice B2 m2 d2]) m (fun i => plusL (a.2.getD i []) 1 (q.2.getD i [])) w5) := Lib.hid (fun W i hb hi => HS2.out W i ((k5.base HB4.out s4 (by omega)).trans (hb.mono (by omega))) hi); have HT2 := Lib.hid (textsBy_own m 58 (.agg #[.slice B m d, .slice B2 m2 d2]) (fun i => plusL (a.2.getD i []) 1 (q.2.getD i [])) w5 eg HA2.out (by omega)))
        | (go_at_call 52; (with_reducible refine HT2.out.mono ?_); rintro e w6 ⟨u6, rfl, o6, k6⟩; obtain ⟨A6, n6, c6, rfl⟩ := o6.isSlice; have s6 := k6.size; have k46 := turn_trans k5 k6 (by omega); have hX6 := HX.out _ k46; have q0 := cell_turn k46 r0 (by omega); have q1 := cell_turn k46 r1 (by omega); have g0 := frozen_turn k46 f0 (by omega); have g1 := frozen_turn k46 f1 (by omega)))
    all_goals
      have hO : OwnT 9 w6 w4.heap.size w6.heap.size (.slice A5 n5 c5) (.slice A6 n6 c6) (textsF n fun i => plusL (a.1.getD i []) 1 (q.1.getD i []), textsF m fun i => plusL (a.2.getD i []) 1 (q.2.getD i [])) := ⟨w5.heap.size, by omega, by omega, o5.keep k6 (by omega), o6⟩
      have HF := Lib.hid (duo_store (R := w.heap.size + 2) hO (turn_trans k34 k46 (by omega)).to_below (by omega) (by omega) (by omega))
      clear o5 o6 hO k5 k6 k46 k5'
      go_wp2_with fail
      refine bodyPost_ret (v := .tuple #[.agg #[.slice A5 n5 c5, .slice A6 n6 c6], .bool true]) (by simp [results, Tryd.results15, go_sem, q0, q1, g0, g1]) rfl ?_
      exact ⟨_, _, rfl, HF.out.1, HF.out.2⟩
  · have HO : Hid (sadOk a q = false) := Lib.hid (by simpa using h)
    have HR := Lib.hid (sadR_no HO.out)
    rw [HO.out, HR.out]
    rw [HO.out] at HC
    clear h
    go_enter Tryd.func15, Tryd.ntmps15
    go_wp2_with fail
    generalize ((((w.alloc (.cells #[.slice A n c, .slice B m d] 25)).alloc (.cells #[.slice A2 n2 c2, .slice B2 m2 d2] 25)).alloc (.cells #[.slice none 0 0, .slice none 0 0] 25))) = w3 at *
    have hz3 : w.heap.size + 3 ≤ w3.heap.size := by omega
    clear z3
    refine HC.out.mono ?_
    rintro e w4 ⟨rfl, k4⟩
    have s4 := k4.size
    replace r0 := cell_turn k4 r0 (by omega)
    replace r1 := cell_turn k4 r1 (by omega)
    replace f0 := frozen_turn k4 f0 (by omega)
    replace f1 := frozen_turn k4 f1 (by omega)
    have HF := Lib.hid (duo_store (R := w.heap.size + 2) (OwnT.nil 9 w4 (w.heap.size + 3) (by omega)) (turn_trans k3 k4 (by omega)).to_below (by omega) (by omega) (by omega))
    go_wp2_with fail
    refine bodyPost_ret (v := .tuple #[.agg #[.slice none 0 0, .slice none 0 0], .bool false]) (by simp [results, Tryd.results15, go_sem, r0, r1, f0, f1]) rfl ?_
    exact ⟨_, _, rfl, HF.out.1, HF.out.2⟩

end Go.Proofs.YtbopocpmodpfcaaDoor
