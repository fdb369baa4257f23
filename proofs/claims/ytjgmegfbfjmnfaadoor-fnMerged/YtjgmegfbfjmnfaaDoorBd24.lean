/- Joined texts: Add3. -/
import Derived.Deep.QuietTactic
import Derived.BigQuiet
import Derived.Test.YtjgmegfbfjmnfaaDoorBd16
import Derived.Test.YtjgmegfbfjmnfaaDoorBd17
set_option linter.unusedSimpArgs false
set_option linter.unusedVariables false
/- AddStripes, the model's. -/
namespace Go.Proofs.YtjgmegfbfjmnfaaDoor
open Go.RowKit G294

set_option maxRecDepth 100000 in
set_option maxHeartbeats 8000000 in
theorem sAddStripes_own (v u v2 u2 : Value) (a q : Strp) (w : World) (hv : Seen w v (strs a.1)) (hu : Seen w u (strs a.2)) (hv2 : Seen w v2 (strs q.1)) (hu2 : Seen w u2 (strs q.2)) :
    Calls Tryd.prog 9 #[.agg #[v, u], .agg #[v2, u2]] w (RetTOk 9 w (sadR a q) (sadOk a q)) := by
  have HV := Lib.hid hv
  have HU := Lib.hid hu
  have HV2 := Lib.hid hv2
  have HU2 := Lib.hid hu2
  have HDEF : Hid (sadOk a q = (strpOk a && (strpOk q && (decide (a.1.length = q.1.length) && (decide (a.2.length = q.2.length) && decide (firstLen a = firstLen q)))))) := Lib.hid rfl
  have HNO : Hid (sadOk a q = false → sadR a q = ([], [])) := Lib.hid sadR_no
  by_cases h1 : strpOk a = true
  · have HA := Lib.hid h1
    have b1 := strpOk_b h1
    by_cases h2 : strpOk q = true
    · have HQ := Lib.hid h2
      have b2 := strpOk_b h2
      obtain ⟨b, off, c, rfl, hbl, hlm, hcx⟩ := seen_at hv (show 0 < a.1.length by omega)
      obtain ⟨b', off', c2, rfl, hbl', hlm', hcy⟩ := seen_at hv2 (show 0 < q.1.length by omega)
      rw [Nat.add_zero] at hcx hcy
      obtain ⟨B, d, huu⟩ := hu.len
      obtain ⟨B2, d2, huu2⟩ := hu2.len
      rw [strs_length] at huu huu2
      subst huu huu2
      have g1' : 0 < a.1.length := b1.1.1
      have g2' : 0 < q.1.length := b2.1.1
      obtain ⟨x, hx⟩ : ∃ x, x = a.1.getD 0 [] := ⟨_, rfl⟩
      obtain ⟨y, hy⟩ : ∃ y, y = q.1.getD 0 [] := ⟨_, rfl⟩
      have HX : Hid (firstLen a = x.length) := Lib.hid (by rw [hx]; rfl)
      have HY : Hid (firstLen q = y.length) := Lib.hid (by rw [hy]; rfl)
      rw [← hx] at hcx
      rw [← hy] at hcy
      have hsx := str_size x
      have hsy := str_size y
      clear hx hy hv hu hv2 hu2
      generalize x.length = lx at *
      generalize y.length = ly at *
      by_cases h3 : a.1.length = q.1.length
      · by_cases h4 : a.2.length = q.2.length
        · by_cases h5 : lx = ly
          · have HO : Hid (sadOk a q = true) := Lib.hid (by rw [HDEF.out, h1, h2, HX.out, HY.out]; simp [h3, h4, h5])
            have t1 : ((a.1.length : Int) != (q.1.length : Int)) = false := by simp [h3]
            have t2 : ((a.2.length : Int) != (q.2.length : Int)) = false := by simp [h4]
            have t3 : ((lx : Int) != (ly : Int)) = false := by simp [h5]
            obtain ⟨F1, hF1⟩ : ∃ F : Nat → List UInt8, F = fun i => plusL (a.1.getD i []) 1 (q.1.getD i []) := ⟨_, rfl⟩
            obtain ⟨F2, hF2⟩ : ∃ F : Nat → List UInt8, F = fun i => plusL (a.2.getD i []) 1 (q.2.getD i []) := ⟨_, rfl⟩
            have HR : Hid (sadR a q = (textsF a.1.length F1, textsF a.2.length F2)) := Lib.hid (by rw [sadR_yes HO.out, hF1, hF2]; rfl)
            have HF1 := Lib.hid hF1
            have HF2 := Lib.hid hF2
            clear hF1 hF2
            have HLN1 : Hid (∀ i, i < a.1.length → i < q.1.length → (q.1.getD i []).length = (a.1.getD i []).length ∧ (a.1.getD i []).length ≤ 1000) := Lib.hid (fun i hi hj => by
              have e40 := strp_len40 h1
              have e5 : firstLen a = firstLen q := by rw [HX.out, HY.out, h5]
              rw [strp_len1 h1 hi, strp_len1 h2 hj]; omega)
            have HLN2 : Hid (∀ i, i < a.2.length → i < q.2.length → (q.2.getD i []).length = (a.2.getD i []).length ∧ (a.2.getD i []).length ≤ 1000) := Lib.hid (fun i hi hj => by
              have e40 := strp_len40 h1
              have e5 : firstLen a = firstLen q := by rw [HX.out, HY.out, h5]
              rw [strp_len2 h1 hi, strp_len2 h2 hj]; omega)
            have bb1 := b1.1
            have bb2 := b1.2.1
            have bb3 := b2.1
            have bb4 := b2.2.1
            clear h1 h2 h5 HX HY
            rw [HO.out, HR.out]
            obtain ⟨bp, offp, d2', hup, hblp, hlmp, hcellp⟩ := seen_cells (W := w) HU2.out (by omega)
            obtain ⟨rfl, rfl⟩ : B2 = some ⟨bp, offp, none⟩ ∧ d2 = d2' := by simpa using hup
            obtain ⟨b9, off9, c9, hdp, hbld, hlmd, hcelld⟩ := seen_cells (W := w) HV2.out (by omega)
            obtain ⟨⟨rfl, rfl⟩, rfl⟩ : (b' = b9 ∧ off' = off9) ∧ c2 = c9 := by simpa using hdp
            have HCP := Lib.hid hcellp
            have HCD := Lib.hid hcelld
            clear hup hdp hcellp hcelld HDEF HNO
            obtain ⟨n, hn⟩ : ∃ n, n = a.1.length := ⟨_, rfl⟩
            obtain ⟨m, hm⟩ : ∃ m, m = a.2.length := ⟨_, rfl⟩
            obtain ⟨n2, hn2⟩ : ∃ n, n = q.1.length := ⟨_, rfl⟩
            obtain ⟨m2, hm2⟩ : ∃ m, m = q.2.length := ⟨_, rfl⟩
            have HN := Lib.hid hn
            have HM := Lib.hid hm
            have HN2 := Lib.hid hn2
            have HM2 := Lib.hid hm2
            rw [← hn] at HV hlm g1' t1 ⊢
            rw [← hm] at HU t2 ⊢
            rw [← hn2] at HV2 hlm' g2' t1 ⊢
            rw [← hm2] at HU2 hlmp t2 ⊢
            have hnn : 1 ≤ n ∧ n ≤ 16 := by omega
            have hmm : 1 ≤ m ∧ m ≤ 4 := by omega
            have HNN2 : Hid (n2 = n) := Lib.hid (by omega)
            have HMM2 : Hid (m2 = m) := Lib.hid (by omega)
            clear hn hm hn2 hm2 b1 b2 h3 h4 bb1 bb2 bb3 bb4
            obtain ⟨x0, x1, hK, z3, k3⟩ := three_boxes w (.slice (some ⟨b, off, none⟩) n c) (.slice B m d) (.slice (some ⟨b', off', none⟩) n2 c2) (.slice (some ⟨bp, offp, none⟩) m2 d2) (.slice none 0 0) (.slice none 0 0) 25
            have fx0 := three_frz w #[.slice (some ⟨b, off, none⟩) n c, .slice B m d] (.cells #[.slice (some ⟨b', off', none⟩) n2 c2, .slice (some ⟨bp, offp, none⟩) m2 d2] 25) (.cells #[.slice none 0 0, .slice none 0 0] 25) 25 0
            have fx1 := three_frz w #[.slice (some ⟨b, off, none⟩) n c, .slice B m d] (.cells #[.slice (some ⟨b', off', none⟩) n2 c2, .slice (some ⟨bp, offp, none⟩) m2 d2] 25) (.cells #[.slice none 0 0, .slice none 0 0] 25) 25 1
            obtain ⟨y0, y1, r0, r1, f0, f1⟩ := hK
            go_enter Tryd.func9, Tryd.ntmps9
            go_wp2_with fail
            generalize (((w.alloc (.cells #[.slice (some ⟨b, off, none⟩) n c, .slice B m d] 25)).alloc (.cells #[.slice (some ⟨b', off', none⟩) n2 c2, .slice (some ⟨bp, offp, none⟩) m2 d2] 25)).alloc (.cells #[.slice none 0 0, .slice none 0 0] 25)) = w3 at *
            have hz3 : w.heap.size + 3 ≤ w3.heap.size := by omega
            clear z3
            have e0 := grew_cell x0 (by omega)
            have e1 := grew_cell x1 (by omega)
            have e2 := grew_cell y0 (by omega)
            have e3 := grew_cell y1 (by omega)
            have HG1 := Lib.hid (fun p : Grew w3 => grew_bool (sGoodStripe_any _ _ a p.at_ ((HV.out.touch k3).below p.old) ((HU.out.touch k3).below p.old)))
            have HG2 := Lib.hid (fun p : Grew w3 => grew_bool (sGoodStripe_any _ _ q p.at_ ((HV2.out.touch k3).below p.old) ((HU2.out.touch k3).below p.old)))
            rw [HA.out] at HG1
            rw [HQ.out] at HG2
            have e4 := grew_cell (cell_turn k3 hcx hbl) (Nat.lt_of_lt_of_le hbl k3.size)
            have e5 := grew_cell (cell_turn k3 hcy hbl') (Nat.lt_of_lt_of_le hbl' k3.size)
            refine wp_region_grew (by kernel_rfl) (by kernel_rfl) ?_
            repeat (first | go_big_quiet_skip | quiet_step ((go_at_call 39; first | with_reducible exact HG1.out _ | exact HG2.out _)))
            refine wpQuiet_nil ?_
            rintro _ ⟨p, rfl⟩
            have hzp := p.old.size
            have q0 := grew_cell r0 (by omega) p
            have q1 := grew_cell r1 (by omega) p
            have g0 := grew_frz f0 (by omega) p
            have g1 := grew_frz f1 (by omega) p
            have kp : TurnIn 0 0 w p.at_ := TurnIn.of_below ((TurnIn.of_below p.old).base k3.to_below k3.size (by omega))
            have x0' := e0 p
            have x1' := e1 p
            have y0' := e2 p
            have y1' := e3 p
            have fx0' := grew_frz fx0 (by omega) p
            have fx1' := grew_frz fx1 (by omega) p
            have HL := Lib.hid (l6Own_own _ _ a p.at_ (HV.out.below kp.to_below) (HU.out.below kp.to_below) (by rw [← HN.out]; omega) (by rw [← HM.out]; omega))
            have hz4 : w.heap.size + 3 ≤ p.at_.heap.size := by omega
            clear e0 e1 e2 e3 e4 e5 HG1 HG2 x0 x1 y0 y1 r0 r1 f0 f1 fx0 fx1 hzp
            generalize p.at_ = w4 at *
            clear p k3 hz3 hcx hcy hsx hsy t1 t2 t3
            go_wp2_with fail
            refine HL.out.mono ?_
            rintro e w5 ⟨d1, p1, rfl, hO, k5⟩
            obtain ⟨mid, hlmm, hmh, oD, oP⟩ := hO
            obtain ⟨gd, cp1, rfl, hg1a, hg1b, hcp1, hcm1, _, _⟩ := oD.shape (by rw [← HN.out]; exact hnn.1)
            obtain ⟨gp, cp2, rfl, hg2a, hg2b, hcp2, hcm2, _, _⟩ := oP.shape (by rw [← HM.out]; exact hmm.1)
            rw [← HN.out] at oD hcp1 ⊢
            rw [← HM.out] at oP hcp2 ⊢
            unfold maxLen at hcm1 hcm2
            have s5 := k5.size
            replace x0' := cell_turn k5 x0' (by omega)
            replace x1' := cell_turn k5 x1' (by omega)
            replace fx0' := frozen_turn k5 fx0' (by omega)
            replace fx1' := frozen_turn k5 fx1' (by omega)
            have hKp : Kept w5 (w.heap.size + 1) (w.heap.size + 2) (.slice (some ⟨b', off', none⟩) n2 c2) (.slice (some ⟨bp, offp, none⟩) m2 d2) (.slice none 0 0) (.slice none 0 0) := ⟨cell_turn k5 y0' (by omega), cell_turn k5 y1' (by omega), cell_turn k5 q0 (by omega), cell_turn k5 q1 (by omega), frozen_turn k5 g0 (by omega), frozen_turn k5 g1 (by omega)⟩
            have hSB := SBox.start (w := w) (B := w.heap.size) oD oP x0' x1' (by omega) hlmm hmh (k5.base kp.to_below (by omega) (by omega)) (Nat.le_refl _)
            have hK6 := (hKp.set (g := w.heap.size) (o := 0) (z := .slice (some ⟨gd, 0, none⟩) n cp1) (by omega) (by omega)).set (g := w.heap.size) (o := 1) (z := .slice (some ⟨gp, 0, none⟩) m cp2) (by omega) (by omega)
            have hc6 := hSB.c0
            have hc6' := hSB.c1
            have hs6 : w5.heap.size ≤ ((w5.setCell ⟨w.heap.size, 0, none⟩ (.slice (some ⟨gd, 0, none⟩) n cp1)).setCell ⟨w.heap.size, 1, none⟩ (.slice (some ⟨gp, 0, none⟩) m cp2)).heap.size := by simp
            rw [← halfT_zero a.1 F1] at hSB
            have HSB := Lib.hid hSB
            have HK6 := Lib.hid hK6
            have hz5 : w.heap.size + 3 ≤ w5.heap.size := by omega
            clear hSB hK6 hKp oD oP kp k5 y0' y1' q0 q1 g0 HL
            go_wp2_with fail
            generalize ((w5.setCell ⟨w.heap.size, 0, none⟩ (.slice (some ⟨gd, 0, none⟩) n cp1)).setCell ⟨w.heap.size, 1, none⟩ (.slice (some ⟨gp, 0, none⟩) m cp2)) = w6 at *
            clear x0' x1' fx0' fx1'
            go_loopw [53] (fun i wr => ∃ k : Nat, k ≤ n ∧ i = .int .i64 k ∧ w5.heap.size ≤ wr.heap.size ∧ Hid (SBox 9 w wr w.heap.size w4.heap.size mid w5.heap.size (.slice (some ⟨gd, 0, none⟩) n cp1) (.slice (some ⟨gp, 0, none⟩) m cp2) (halfT a.1 F1 k) a.2) ∧ Hid (Kept wr (w.heap.size + 1) (w.heap.size + 2) (.slice (some ⟨b', off', none⟩) n2 c2) (.slice (some ⟨bp, offp, none⟩) m2 d2) (.slice none 0 0) (.slice none 0 0))) (fun i _ => n - (intOf i).toNat)
            case atStart => exact ⟨0, Nat.zero_le _, rfl, hs6, HSB, HK6⟩
            case round =>
              obtain ⟨k, hk, rfl, hszr, HSR, HKR⟩ := hrel
              clear HSB HK6 hc6 hc6' hs6
              by_cases hlt : k < n
              · have hki : (k : Int) < (n : Int) := by omega
                have hkj : (k : Int) < (n2 : Int) := by have h9 := HNN2.out; omega
                have hbx := HSR.out.c0
                have hbq := HKR.out.x0
                have hold := HSR.out.old
                have hka : k < a.1.length := by rw [← HN.out]; exact hlt
                have hkq : k < q.1.length := by have h9 := HNN2.out; rw [← HN2.out]; omega
                obtain ⟨hcx, hfr⟩ := HSR.out.data.atK (by rw [halfT_length, ← HN.out]) hlt
                rw [halfT_get _ _ _ hka] at hcx
                have hcy : wr.cell? ⟨b', off' + k, none⟩ = some (.string (str (q.1.getD k []))) := by
                  have := HCD.out _ hold k _ (strs_get q.1 k hkq)
                  rw [Addr.add_lit] at this
                  rw [this]; simp [List.getD, hkq]
                have HLX : Hid ((q.1.getD k []).length = (a.1.getD k []).length ∧ (a.1.getD k []).length ≤ 1000) := Lib.hid (HLN1.out k hka hkq)
                have HFX : Hid (F1 k = plusL (a.1.getD k []) 1 (q.1.getD k [])) := Lib.hid (by rw [HF1.out])
                have HNX := Lib.hid (halfT_next a.1 F1 k)
                generalize a.1.getD k [] = x at *
                generalize q.1.getD k [] = y at *
                have hgg := (HSR.out.data.1.lt gd rfl).1
                have hgh := HSR.out.data.2.2 gd rfl
                have h1b := HSR.out.hB
                have h2b := HSR.out.hlm
                have h3b := HSR.out.hmh
                have HOLD := Lib.hid hold
                clear hold
                go_wp2_with fail
                have hS : (fun W : World => W.cell? ⟨w.heap.size, 0, none⟩ = some (.slice (some ⟨gd, 0, none⟩) n cp1) ∧ W.cell? ⟨w.heap.size + 1, 0, none⟩ = some (.slice (some ⟨b', off', none⟩) n2 c2) ∧ W.cell? ⟨gd, k, none⟩ = some (.string (str x)) ∧ W.cell? ⟨b', off' + k, none⟩ = some (.string (str y))) wr.drew := ⟨hbx, hbq, hcx, hcy⟩
                refine wp_region_tail (fun W : World => W.cell? ⟨w.heap.size, 0, none⟩ = some (.slice (some ⟨gd, 0, none⟩) n cp1) ∧ W.cell? ⟨w.heap.size + 1, 0, none⟩ = some (.slice (some ⟨b', off', none⟩) n2 c2) ∧ W.cell? ⟨gd, k, none⟩ = some (.string (str x)) ∧ W.cell? ⟨b', off' + k, none⟩ = some (.string (str y))) 15 (by kernel_rfl) ?_
                refine wpAnyT_take (i := 0) (oi := _) (v := ?vD0) rfl (by kernel_rfl) (by kernel_rfl) (by kernel_rfl) (by kernel_rfl) (fun _ _ _ h => h) (Or.inl ⟨by rfl, ?hyD0⟩) hS ?restD0
                case hyD0 => (intro W hW; obtain ⟨e1, e2, e3, e4⟩ := hW; go_simp; try with_reducible rfl)
                simp only [Act.put, List.setIfInBounds_toArray, List.set_cons_zero, List.set_cons_succ]
                refine wpAnyT_take (i := 1) (oi := _) (v := ?vD1) rfl (by kernel_rfl) (by kernel_rfl) (by kernel_rfl) (by kernel_rfl) (fun _ _ _ h => h) (Or.inl ⟨by rfl, ?hyD1⟩) hS ?restD1
                case hyD1 => (intro W hW; obtain ⟨e1, e2, e3, e4⟩ := hW; go_simp; try with_reducible rfl)
                simp only [Act.put, List.setIfInBounds_toArray, List.set_cons_zero, List.set_cons_succ]
                refine wpAnyT_take (i := 2) (oi := _) (v := ?vD2) rfl (by kernel_rfl) (by kernel_rfl) (by kernel_rfl) (by kernel_rfl) (fun _ _ _ h => h) (Or.inl ⟨by rfl, ?hyD2⟩) hS ?restD2
                case hyD2 => (intro W hW; obtain ⟨e1, e2, e3, e4⟩ := hW; go_simp; try with_reducible rfl)
                simp only [Act.put, List.setIfInBounds_toArray, List.set_cons_zero, List.set_cons_succ]
                refine wpAnyT_take (i := 3) (oi := _) (v := ?vD3) rfl (by kernel_rfl) (by kernel_rfl) (by kernel_rfl) (by kernel_rfl) (fun _ _ _ h => h) (Or.inl ⟨by rfl, ?hyD3⟩) hS ?restD3
                case hyD3 => (intro W hW; obtain ⟨e1, e2, e3, e4⟩ := hW; go_simp; try with_reducible rfl)
                simp only [Act.put, List.setIfInBounds_toArray, List.set_cons_zero, List.set_cons_succ]
                refine wpAnyT_take (i := 4) (oi := _) (v := ?vD4) rfl (by kernel_rfl) (by kernel_rfl) (by kernel_rfl) (by kernel_rfl) (fun _ _ _ h => h) (Or.inl ⟨by rfl, ?hyD4⟩) hS ?restD4
                case hyD4 => (intro W hW; obtain ⟨e1, e2, e3, e4⟩ := hW; go_simp; try with_reducible rfl)
                simp only [Act.put, List.setIfInBounds_toArray, List.set_cons_zero, List.set_cons_succ]
                refine wpAnyT_take (i := 5) (oi := _) (v := ?vD5) rfl (by kernel_rfl) (by kernel_rfl) (by kernel_rfl) (by kernel_rfl) (fun _ _ _ h => h) (Or.inl ⟨by rfl, ?hyD5⟩) hS ?restD5
                case hyD5 => (intro W hW; obtain ⟨e1, e2, e3, e4⟩ := hW; go_simp; try with_reducible rfl)
                simp only [Act.put, List.setIfInBounds_toArray, List.set_cons_zero, List.set_cons_succ]
                refine wpAnyT_take (i := 6) (oi := _) (v := ?vD6) rfl (by kernel_rfl) (by kernel_rfl) (by kernel_rfl) (by kernel_rfl) (fun _ _ _ h => h) (Or.inl ⟨by rfl, ?hyD6⟩) hS ?restD6
                case hyD6 => (intro W hW; obtain ⟨e1, e2, e3, e4⟩ := hW; go_simp; try with_reducible rfl)
                simp only [Act.put, List.setIfInBounds_toArray, List.set_cons_zero, List.set_cons_succ]
                refine wpAnyT_take (i := 7) (oi := _) (v := ?vD7) rfl (by kernel_rfl) (by kernel_rfl) (by kernel_rfl) (by kernel_rfl) (fun _ _ _ h => h) (Or.inl ⟨by rfl, ?hyD7⟩) hS ?restD7
                case hyD7 => (intro W hW; obtain ⟨e1, e2, e3, e4⟩ := hW; go_simp; try with_reducible rfl)
                simp only [Act.put, List.setIfInBounds_toArray, List.set_cons_zero, List.set_cons_succ]
                refine wpAnyT_take (i := 8) (oi := _) (v := ?vD8) rfl (by kernel_rfl) (by kernel_rfl) (by kernel_rfl) (by kernel_rfl) (fun _ _ _ h => h) (Or.inl ⟨by rfl, ?hyD8⟩) hS ?restD8
                case hyD8 => (intro W hW; obtain ⟨e1, e2, e3, e4⟩ := hW; go_simp; try with_reducible rfl)
                simp only [Act.put, List.setIfInBounds_toArray, List.set_cons_zero, List.set_cons_succ]
                refine wpAnyT_take (i := 9) (oi := _) (v := ?vD9) rfl (by kernel_rfl) (by kernel_rfl) (by kernel_rfl) (by kernel_rfl) (fun _ _ _ h => h) (Or.inl ⟨by rfl, ?hyD9⟩) hS ?restD9
                case hyD9 => (intro W hW; obtain ⟨e1, e2, e3, e4⟩ := hW; go_simp; try with_reducible rfl)
                simp only [Act.put, List.setIfInBounds_toArray, List.set_cons_zero, List.set_cons_succ]
                refine wpAnyT_take (i := 10) (oi := _) (v := ?vD10) rfl (by kernel_rfl) (by kernel_rfl) (by kernel_rfl) (by kernel_rfl) (fun _ _ _ h => h) (Or.inl ⟨by rfl, ?hyD10⟩) hS ?restD10
                case hyD10 => (intro W hW; obtain ⟨e1, e2, e3, e4⟩ := hW; go_simp; try with_reducible rfl)
                simp only [Act.put, List.setIfInBounds_toArray, List.set_cons_zero, List.set_cons_succ]
                refine wpAnyT_take (i := 11) (oi := _) (v := ?vD11) rfl (by kernel_rfl) (by kernel_rfl) (by kernel_rfl) (by kernel_rfl) (fun _ _ _ h => h) (Or.inl ⟨by rfl, ?hyD11⟩) hS ?restD11
                case hyD11 => (intro W hW; obtain ⟨e1, e2, e3, e4⟩ := hW; go_simp; try with_reducible rfl)
                simp only [Act.put, List.setIfInBounds_toArray, List.set_cons_zero, List.set_cons_succ]
                refine wpAnyT_take (i := 12) (oi := _) (v := ?vD12) rfl (by kernel_rfl) (by kernel_rfl) (by kernel_rfl) (by kernel_rfl) (fun _ _ _ h => h) (Or.inl ⟨by rfl, ?hyD12⟩) hS ?restD12
                case hyD12 => (intro W hW; obtain ⟨e1, e2, e3, e4⟩ := hW; go_simp; try with_reducible rfl)
                simp only [Act.put, List.setIfInBounds_toArray, List.set_cons_zero, List.set_cons_succ]
                refine wpAnyT_one (i := 13) (o := _) rfl (by kernel_rfl) (fun K hK => ?_)
                go_simp
                refine (l6Plus_own x y 1 _ HLX.out.1 HLX.out.2).mono ?_
                rintro e w7 ⟨rfl, k7'⟩
                have k7 := undrew k7'
                have s7 := k7.size
                have t0 := cell_turn k7 hbx (by omega)
                have t1 := cell_turn k7 hbq (by omega)
                have t2 := cell_turn k7 hcx (by omega)
                have t3 := cell_turn k7 hcy (Nat.lt_of_lt_of_le hbl' HOLD.out.size)
                have t4 := frozen_turn k7 hfr (by omega)
                refine hK.out _ _ (fun _ => ⟨t0, t1, t2, t3⟩) ?_
                clear hK K hS
                try simp only [Act.put, List.setIfInBounds_toArray, List.set_cons_zero, List.set_cons_succ]
                refine wpAnyT_one (i := 14) (o := _) rfl (by kernel_rfl) (fun K hK => ?_)
                go_simp
                refine hK.out _ _ (fun _ => ⟨t0, t1, t2, t3⟩) ?_
                clear hK K
                try simp only [Act.put, List.setIfInBounds_toArray, List.set_cons_zero, List.set_cons_succ]
                refine wpAnyT_one (i := 15) (o := _) rfl (by kernel_rfl) (fun K hK => ?_)
                go_simp
                refine hK.out _ _ (fun h => absurd rfl h) ?_
                clear hK K
                try simp only [Act.put, List.setIfInBounds_toArray, List.set_cons_zero, List.set_cons_succ]
                refine wpAnyT_done (by kernel_rfl) ?_ _
                have HS8 : Hid (SBox 9 w (w7.setCell ⟨gd, k, none⟩ (.string (str (plusL x 1 y)))) w.heap.size w4.heap.size mid w5.heap.size (.slice (some ⟨gd, 0, none⟩) n cp1) (.slice (some ⟨gp, 0, none⟩) m cp2) (halfT a.1 F1 (k + 1)) a.2) := Lib.hid ((HSR.out.turn k7 (by omega)).storeD (by rw [halfT_length, ← HN.out]) (by rw [← HFX.out]; exact HNX.out) (by omega))
                have HK8 := Lib.hid ((HKR.out.turn k7 (by omega) (by omega)).set (g := gd) (o := k) (z := .string (str (plusL x 1 y))) (by omega) (by omega))
                have hs8 : w5.heap.size ≤ (w7.setCell ⟨gd, k, none⟩ (.string (str (plusL x 1 y)))).heap.size := by have e : (w7.setCell ⟨gd, k, none⟩ (.string (str (plusL x 1 y)))).heap.size = w7.heap.size := (by simp); omega
                clear t0 t1 t2 t3 t4 k7 k7' hcx hcy hfr hbx hbq
                go_wp2_with fail
                go_roundw
                case rel => exact ⟨k + 1, by omega, by go_num, hs8, HS8, HK8⟩
                case measure => simp [intOf]; omega
              · obtain rfl : n = k := by omega
                have hki : ¬ (n : Int) < (n : Int) := by omega
                have HEND : Hid (halfT a.1 F1 n = textsF n F1) := Lib.hid (by rw [HN.out, halfT_all])
                rw [HEND.out] at HSR
                have hcz := HSR.out.c0
                have hcz' := HSR.out.c1
                rw [← halfT_zero a.2 F2] at HSR
                have HSB2 := HSR
                have HK2 := HKR
                have hsz2 := hszr
                clear HSR HKR hszr
                go_wp2_with fail
                go_loopw [75] (fun i wr => ∃ k : Nat, k ≤ m ∧ i = .int .i64 k ∧ w5.heap.size ≤ wr.heap.size ∧ Hid (SBox 9 w wr w.heap.size w4.heap.size mid w5.heap.size (.slice (some ⟨gd, 0, none⟩) n cp1) (.slice (some ⟨gp, 0, none⟩) m cp2) (textsF n F1) (halfT a.2 F2 k)) ∧ Hid (Kept wr (w.heap.size + 1) (w.heap.size + 2) (.slice (some ⟨b', off', none⟩) n2 c2) (.slice (some ⟨bp, offp, none⟩) m2 d2) (.slice none 0 0) (.slice none 0 0))) (fun i _ => m - (intOf i).toNat)
                case atStart => exact ⟨0, Nat.zero_le _, rfl, hsz2, HSB2, HK2⟩
                case round =>
                  obtain ⟨k, hk, rfl, hszr, HSR, HKR⟩ := hrel
                  clear HSB2 HK2 hcz hcz' hsz2
                  by_cases hlt : k < m
                  · have hki : (k : Int) < (m : Int) := by omega
                    have hkj : (k : Int) < (m2 : Int) := by have h9 := HMM2.out; omega
                    have hbx := HSR.out.c1
                    have hbq := HKR.out.x1
                    have hold := HSR.out.old
                    have hka : k < a.2.length := by rw [← HM.out]; exact hlt
                    have hkq : k < q.2.length := by have h9 := HMM2.out; rw [← HM2.out]; omega
                    obtain ⟨hcx, hfr⟩ := HSR.out.par.atK (by rw [halfT_length, ← HM.out]) hlt
                    rw [halfT_get _ _ _ hka] at hcx
                    have hcy : wr.cell? ⟨bp, offp + k, none⟩ = some (.string (str (q.2.getD k []))) := by
                      have := HCP.out _ hold k _ (strs_get q.2 k hkq)
                      rw [Addr.add_lit] at this
                      rw [this]; simp [List.getD, hkq]
                    have HLX : Hid ((q.2.getD k []).length = (a.2.getD k []).length ∧ (a.2.getD k []).length ≤ 1000) := Lib.hid (HLN2.out k hka hkq)
                    have HFX : Hid (F2 k = plusL (a.2.getD k []) 1 (q.2.getD k [])) := Lib.hid (by rw [HF2.out])
                    have HNX := Lib.hid (halfT_next a.2 F2 k)
                    generalize a.2.getD k [] = x at *
                    generalize q.2.getD k [] = y at *
                    have hgg := (HSR.out.par.1.lt gp rfl).1
                    have hgh := HSR.out.par.2.2 gp rfl
                    have h1b := HSR.out.hB
                    have h2b := HSR.out.hlm
                    have h3b := HSR.out.hmh
                    have HOLD := Lib.hid hold
                    clear hold
                    go_wp2_with fail
                    have hS : (fun W : World => W.cell? ⟨w.heap.size, 1, none⟩ = some (.slice (some ⟨gp, 0, none⟩) m cp2) ∧ W.cell? ⟨w.heap.size + 1, 1, none⟩ = some (.slice (some ⟨bp, offp, none⟩) m2 d2) ∧ W.cell? ⟨gp, k, none⟩ = some (.string (str x)) ∧ W.cell? ⟨bp, offp + k, none⟩ = some (.string (str y))) wr.drew := ⟨hbx, hbq, hcx, hcy⟩
                    refine wp_region_tail (fun W : World => W.cell? ⟨w.heap.size, 1, none⟩ = some (.slice (some ⟨gp, 0, none⟩) m cp2) ∧ W.cell? ⟨w.heap.size + 1, 1, none⟩ = some (.slice (some ⟨bp, offp, none⟩) m2 d2) ∧ W.cell? ⟨gp, k, none⟩ = some (.string (str x)) ∧ W.cell? ⟨bp, offp + k, none⟩ = some (.string (str y))) 15 (by kernel_rfl) ?_
                    refine wpAnyT_take (i := 0) (oi := _) (v := ?vP0) rfl (by kernel_rfl) (by kernel_rfl) (by kernel_rfl) (by kernel_rfl) (fun _ _ _ h => h) (Or.inl ⟨by rfl, ?hyP0⟩) hS ?restP0
                    case hyP0 => (intro W hW; obtain ⟨e1, e2, e3, e4⟩ := hW; go_simp; try with_reducible rfl)
                    simp only [Act.put, List.setIfInBounds_toArray, List.set_cons_zero, List.set_cons_succ]
                    refine wpAnyT_take (i := 1) (oi := _) (v := ?vP1) rfl (by kernel_rfl) (by kernel_rfl) (by kernel_rfl) (by kernel_rfl) (fun _ _ _ h => h) (Or.inl ⟨by rfl, ?hyP1⟩) hS ?restP1
                    case hyP1 => (intro W hW; obtain ⟨e1, e2, e3, e4⟩ := hW; go_simp; try with_reducible rfl)
                    simp only [Act.put, List.setIfInBounds_toArray, List.set_cons_zero, List.set_cons_succ]
                    refine wpAnyT_take (i := 2) (oi := _) (v := ?vP2) rfl (by kernel_rfl) (by kernel_rfl) (by kernel_rfl) (by kernel_rfl) (fun _ _ _ h => h) (Or.inl ⟨by rfl, ?hyP2⟩) hS ?restP2
                    case hyP2 => (intro W hW; obtain ⟨e1, e2, e3, e4⟩ := hW; go_simp; try with_reducible rfl)
                    simp only [Act.put, List.setIfInBounds_toArray, List.set_cons_zero, List.set_cons_succ]
                    refine wpAnyT_take (i := 3) (oi := _) (v := ?vP3) rfl (by kernel_rfl) (by kernel_rfl) (by kernel_rfl) (by kernel_rfl) (fun _ _ _ h => h) (Or.inl ⟨by rfl, ?hyP3⟩) hS ?restP3
                    case hyP3 => (intro W hW; obtain ⟨e1, e2, e3, e4⟩ := hW; go_simp; try with_reducible rfl)
                    simp only [Act.put, List.setIfInBounds_toArray, List.set_cons_zero, List.set_cons_succ]
                    refine wpAnyT_take (i := 4) (oi := _) (v := ?vP4) rfl (by kernel_rfl) (by kernel_rfl) (by kernel_rfl) (by kernel_rfl) (fun _ _ _ h => h) (Or.inl ⟨by rfl, ?hyP4⟩) hS ?restP4
                    case hyP4 => (intro W hW; obtain ⟨e1, e2, e3, e4⟩ := hW; go_simp; try with_reducible rfl)
                    simp only [Act.put, List.setIfInBounds_toArray, List.set_cons_zero, List.set_cons_succ]
                    refine wpAnyT_take (i := 5) (oi := _) (v := ?vP5) rfl (by kernel_rfl) (by kernel_rfl) (by kernel_rfl) (by kernel_rfl) (fun _ _ _ h => h) (Or.inl ⟨by rfl, ?hyP5⟩) hS ?restP5
                    case hyP5 => (intro W hW; obtain ⟨e1, e2, e3, e4⟩ := hW; go_simp; try with_reducible rfl)
                    simp only [Act.put, List.setIfInBounds_toArray, List.set_cons_zero, List.set_cons_succ]
                    refine wpAnyT_take (i := 6) (oi := _) (v := ?vP6) rfl (by kernel_rfl) (by kernel_rfl) (by kernel_rfl) (by kernel_rfl) (fun _ _ _ h => h) (Or.inl ⟨by rfl, ?hyP6⟩) hS ?restP6
                    case hyP6 => (intro W hW; obtain ⟨e1, e2, e3, e4⟩ := hW; go_simp; try with_reducible rfl)
                    simp only [Act.put, List.setIfInBounds_toArray, List.set_cons_zero, List.set_cons_succ]
                    refine wpAnyT_take (i := 7) (oi := _) (v := ?vP7) rfl (by kernel_rfl) (by kernel_rfl) (by kernel_rfl) (by kernel_rfl) (fun _ _ _ h => h) (Or.inl ⟨by rfl, ?hyP7⟩) hS ?restP7
                    case hyP7 => (intro W hW; obtain ⟨e1, e2, e3, e4⟩ := hW; go_simp; try with_reducible rfl)
                    simp only [Act.put, List.setIfInBounds_toArray, List.set_cons_zero, List.set_cons_succ]
                    refine wpAnyT_take (i := 8) (oi := _) (v := ?vP8) rfl (by kernel_rfl) (by kernel_rfl) (by kernel_rfl) (by kernel_rfl) (fun _ _ _ h => h) (Or.inl ⟨by rfl, ?hyP8⟩) hS ?restP8
                    case hyP8 => (intro W hW; obtain ⟨e1, e2, e3, e4⟩ := hW; go_simp; try with_reducible rfl)
                    simp only [Act.put, List.setIfInBounds_toArray, List.set_cons_zero, List.set_cons_succ]
                    refine wpAnyT_take (i := 9) (oi := _) (v := ?vP9) rfl (by kernel_rfl) (by kernel_rfl) (by kernel_rfl) (by kernel_rfl) (fun _ _ _ h => h) (Or.inl ⟨by rfl, ?hyP9⟩) hS ?restP9
                    case hyP9 => (intro W hW; obtain ⟨e1, e2, e3, e4⟩ := hW; go_simp; try with_reducible rfl)
                    simp only [Act.put, List.setIfInBounds_toArray, List.set_cons_zero, List.set_cons_succ]
                    refine wpAnyT_take (i := 10) (oi := _) (v := ?vP10) rfl (by kernel_rfl) (by kernel_rfl) (by kernel_rfl) (by kernel_rfl) (fun _ _ _ h => h) (Or.inl ⟨by rfl, ?hyP10⟩) hS ?restP10
                    case hyP10 => (intro W hW; obtain ⟨e1, e2, e3, e4⟩ := hW; go_simp; try with_reducible rfl)
                    simp only [Act.put, List.setIfInBounds_toArray, List.set_cons_zero, List.set_cons_succ]
                    refine wpAnyT_take (i := 11) (oi := _) (v := ?vP11) rfl (by kernel_rfl) (by kernel_rfl) (by kernel_rfl) (by kernel_rfl) (fun _ _ _ h => h) (Or.inl ⟨by rfl, ?hyP11⟩) hS ?restP11
                    case hyP11 => (intro W hW; obtain ⟨e1, e2, e3, e4⟩ := hW; go_simp; try with_reducible rfl)
                    simp only [Act.put, List.setIfInBounds_toArray, List.set_cons_zero, List.set_cons_succ]
                    refine wpAnyT_take (i := 12) (oi := _) (v := ?vP12) rfl (by kernel_rfl) (by kernel_rfl) (by kernel_rfl) (by kernel_rfl) (fun _ _ _ h => h) (Or.inl ⟨by rfl, ?hyP12⟩) hS ?restP12
                    case hyP12 => (intro W hW; obtain ⟨e1, e2, e3, e4⟩ := hW; go_simp; try with_reducible rfl)
                    simp only [Act.put, List.setIfInBounds_toArray, List.set_cons_zero, List.set_cons_succ]
                    refine wpAnyT_one (i := 13) (o := _) rfl (by kernel_rfl) (fun K hK => ?_)
                    go_simp
                    refine (l6Plus_own x y 1 _ HLX.out.1 HLX.out.2).mono ?_
                    rintro e w7 ⟨rfl, k7'⟩
                    have k7 := undrew k7'
                    have s7 := k7.size
                    have t0 := cell_turn k7 hbx (by omega)
                    have t1 := cell_turn k7 hbq (by omega)
                    have t2 := cell_turn k7 hcx (by omega)
                    have t3 := cell_turn k7 hcy (Nat.lt_of_lt_of_le hblp HOLD.out.size)
                    have t4 := frozen_turn k7 hfr (by omega)
                    refine hK.out _ _ (fun _ => ⟨t0, t1, t2, t3⟩) ?_
                    clear hK K hS
                    try simp only [Act.put, List.setIfInBounds_toArray, List.set_cons_zero, List.set_cons_succ]
                    refine wpAnyT_one (i := 14) (o := _) rfl (by kernel_rfl) (fun K hK => ?_)
                    go_simp
                    refine hK.out _ _ (fun _ => ⟨t0, t1, t2, t3⟩) ?_
                    clear hK K
                    try simp only [Act.put, List.setIfInBounds_toArray, List.set_cons_zero, List.set_cons_succ]
                    refine wpAnyT_one (i := 15) (o := _) rfl (by kernel_rfl) (fun K hK => ?_)
                    go_simp
                    refine hK.out _ _ (fun h => absurd rfl h) ?_
                    clear hK K
                    try simp only [Act.put, List.setIfInBounds_toArray, List.set_cons_zero, List.set_cons_succ]
                    refine wpAnyT_done (by kernel_rfl) ?_ _
                    have HS8 : Hid (SBox 9 w (w7.setCell ⟨gp, k, none⟩ (.string (str (plusL x 1 y)))) w.heap.size w4.heap.size mid w5.heap.size (.slice (some ⟨gd, 0, none⟩) n cp1) (.slice (some ⟨gp, 0, none⟩) m cp2) (textsF n F1) (halfT a.2 F2 (k + 1))) := Lib.hid ((HSR.out.turn k7 (by omega)).storeP (by rw [halfT_length, ← HM.out]) (by rw [← HFX.out]; exact HNX.out) (by omega))
                    have HK8 := Lib.hid ((HKR.out.turn k7 (by omega) (by omega)).set (g := gp) (o := k) (z := .string (str (plusL x 1 y))) (by omega) (by omega))
                    have hs8 : w5.heap.size ≤ (w7.setCell ⟨gp, k, none⟩ (.string (str (plusL x 1 y)))).heap.size := by have e : (w7.setCell ⟨gp, k, none⟩ (.string (str (plusL x 1 y)))).heap.size = w7.heap.size := (by simp); omega
                    clear t0 t1 t2 t3 t4 k7 k7' hcx hcy hfr hbx hbq
                    go_wp2_with fail
                    go_roundw
                    case rel => exact ⟨k + 1, by omega, by go_num, hs8, HS8, HK8⟩
                    case measure => simp [intOf]; omega
                  · obtain rfl : m = k := by omega
                    have hki : ¬ (m : Int) < (m : Int) := by omega
                    have HEND : Hid (halfT a.2 F2 m = textsF m F2) := Lib.hid (by rw [HM.out, halfT_all])
                    rw [HEND.out] at HSR
                    have hcz := HSR.out.c0
                    have hcz' := HSR.out.c1
                    obtain ⟨_, _, q0, q1, g0, g1'⟩ := HKR.out
                    have h1b := HSR.out.hB
                    have HF := Lib.hid (duo_store (R := w.heap.size + 2) HSR.out.own HSR.out.old (by omega) (by omega) (by omega))
                    go_wp2_with fail
                    refine bodyPost_ret (v := .tuple #[.agg #[(.slice (some ⟨gd, 0, none⟩) n cp1), (.slice (some ⟨gp, 0, none⟩) m cp2)], .bool true]) (by simp [results, Tryd.results9, go_sem, q0, q1, g0, g1']) rfl ?_
                    exact ⟨_, _, rfl, HF.out.1, HF.out.2⟩
          · have HO : Hid (sadOk a q = false) := Lib.hid (by rw [HDEF.out, HX.out, HY.out]; simp [h5])
            have t1 : ((a.1.length : Int) != (q.1.length : Int)) = false := by simp [h3]
            have t2 : ((a.2.length : Int) != (q.2.length : Int)) = false := by simp [h4]
            have t3 : ((lx : Int) != (ly : Int)) = true := by simp; omega
            clear h1 h2 h3 h4 h5 HX HY b1 b2
            rw [HO.out, HNO.out HO.out]
            clear HDEF HNO
            generalize a.1.length = n at *
            generalize a.2.length = m at *
            generalize q.1.length = n2 at *
            generalize q.2.length = m2 at *
            obtain ⟨x0, x1, hK, z3, k3⟩ := three_boxes w (.slice (some ⟨b, off, none⟩) n c) (.slice B m d) (.slice (some ⟨b', off', none⟩) n2 c2) (.slice B2 m2 d2) (.slice none 0 0) (.slice none 0 0) 25
            have fx0 := three_frz w #[.slice (some ⟨b, off, none⟩) n c, .slice B m d] (.cells #[.slice (some ⟨b', off', none⟩) n2 c2, .slice B2 m2 d2] 25) (.cells #[.slice none 0 0, .slice none 0 0] 25) 25 0
            have fx1 := three_frz w #[.slice (some ⟨b, off, none⟩) n c, .slice B m d] (.cells #[.slice (some ⟨b', off', none⟩) n2 c2, .slice B2 m2 d2] 25) (.cells #[.slice none 0 0, .slice none 0 0] 25) 25 1
            obtain ⟨y0, y1, r0, r1, f0, f1⟩ := hK
            go_enter Tryd.func9, Tryd.ntmps9
            go_wp2_with fail
            generalize (((w.alloc (.cells #[.slice (some ⟨b, off, none⟩) n c, .slice B m d] 25)).alloc (.cells #[.slice (some ⟨b', off', none⟩) n2 c2, .slice B2 m2 d2] 25)).alloc (.cells #[.slice none 0 0, .slice none 0 0] 25)) = w3 at *
            have hz3 : w.heap.size + 3 ≤ w3.heap.size := by omega
            clear z3
            have e0 := grew_cell x0 (by omega)
            have e1 := grew_cell x1 (by omega)
            have e2 := grew_cell y0 (by omega)
            have e3 := grew_cell y1 (by omega)
            have HG1 := Lib.hid (fun p : Grew w3 => grew_bool (sGoodStripe_any _ _ a p.at_ ((HV.out.touch k3).below p.old) ((HU.out.touch k3).below p.old)))
            have HG2 := Lib.hid (fun p : Grew w3 => grew_bool (sGoodStripe_any _ _ q p.at_ ((HV2.out.touch k3).below p.old) ((HU2.out.touch k3).below p.old)))
            rw [HA.out] at HG1
            rw [HQ.out] at HG2
            have e4 := grew_cell (cell_turn k3 hcx hbl) (Nat.lt_of_lt_of_le hbl k3.size)
            have e5 := grew_cell (cell_turn k3 hcy hbl') (Nat.lt_of_lt_of_le hbl' k3.size)
            refine wp_region_grew (by kernel_rfl) (by kernel_rfl) ?_
            repeat (first | go_big_quiet_skip | quiet_step ((go_at_call 39; first | with_reducible exact HG1.out _ | exact HG2.out _)))
            refine wpQuiet_nil ?_
            rintro _ ⟨p, rfl⟩
            have hzp := p.old.size
            have q0 := grew_cell r0 (by omega) p
            have q1 := grew_cell r1 (by omega) p
            have g0 := grew_frz f0 (by omega) p
            have g1 := grew_frz f1 (by omega) p
            have kp : TurnIn 0 0 w p.at_ := TurnIn.of_below ((TurnIn.of_below p.old).base k3.to_below k3.size (by omega))
            have HF := Lib.hid (duo_store (R := w.heap.size + 2) (OwnT.nil 9 p.at_ (w.heap.size + 3) (by omega)) kp.to_below (by omega) (by omega) (by omega))
            clear e0 e1 e2 e3 kp
            go_wp2_with fail
            refine bodyPost_ret (v := .tuple #[.agg #[.slice none 0 0, .slice none 0 0], .bool false]) (by simp [results, Tryd.results9, go_sem, q0, q1, g0, g1]) rfl ?_
            exact ⟨_, _, rfl, HF.out.1, HF.out.2⟩
        · have HO : Hid (sadOk a q = false) := Lib.hid (by rw [HDEF.out]; simp [h4])
          have t1 : ((a.1.length : Int) != (q.1.length : Int)) = false := by simp [h3]
          have t2 : ((a.2.length : Int) != (q.2.length : Int)) = true := by simp; omega
          clear h1 h2 h3 h4 HX HY b1 b2
          rw [HO.out, HNO.out HO.out]
          clear HDEF HNO
          generalize a.1.length = n at *
          generalize a.2.length = m at *
          generalize q.1.length = n2 at *
          generalize q.2.length = m2 at *
          obtain ⟨x0, x1, hK, z3, k3⟩ := three_boxes w (.slice (some ⟨b, off, none⟩) n c) (.slice B m d) (.slice (some ⟨b', off', none⟩) n2 c2) (.slice B2 m2 d2) (.slice none 0 0) (.slice none 0 0) 25
          have fx0 := three_frz w #[.slice (some ⟨b, off, none⟩) n c, .slice B m d] (.cells #[.slice (some ⟨b', off', none⟩) n2 c2, .slice B2 m2 d2] 25) (.cells #[.slice none 0 0, .slice none 0 0] 25) 25 0
          have fx1 := three_frz w #[.slice (some ⟨b, off, none⟩) n c, .slice B m d] (.cells #[.slice (some ⟨b', off', none⟩) n2 c2, .slice B2 m2 d2] 25) (.cells #[.slice none 0 0, .slice none 0 0] 25) 25 1
          obtain ⟨y0, y1, r0, r1, f0, f1⟩ := hK
          go_enter Tryd.func9, Tryd.ntmps9
          go_wp2_with fail
          generalize (((w.alloc (.cells #[.slice (some ⟨b, off, none⟩) n c, .slice B m d] 25)).alloc (.cells #[.slice (some ⟨b', off', none⟩) n2 c2, .slice B2 m2 d2] 25)).alloc (.cells #[.slice none 0 0, .slice none 0 0] 25)) = w3 at *
          have hz3 : w.heap.size + 3 ≤ w3.heap.size := by omega
          clear z3
          have e0 := grew_cell x0 (by omega)
          have e1 := grew_cell x1 (by omega)
          have e2 := grew_cell y0 (by omega)
          have e3 := grew_cell y1 (by omega)
          have HG1 := Lib.hid (fun p : Grew w3 => grew_bool (sGoodStripe_any _ _ a p.at_ ((HV.out.touch k3).below p.old) ((HU.out.touch k3).below p.old)))
          have HG2 := Lib.hid (fun p : Grew w3 => grew_bool (sGoodStripe_any _ _ q p.at_ ((HV2.out.touch k3).below p.old) ((HU2.out.touch k3).below p.old)))
          rw [HA.out] at HG1
          rw [HQ.out] at HG2
          have e4 := grew_cell (cell_turn k3 hcx hbl) (Nat.lt_of_lt_of_le hbl k3.size)
          have e5 := grew_cell (cell_turn k3 hcy hbl') (Nat.lt_of_lt_of_le hbl' k3.size)
          refine wp_region_grew (by kernel_rfl) (by kernel_rfl) ?_
          repeat (first | go_big_quiet_skip | quiet_step ((go_at_call 39; first | with_reducible exact HG1.out _ | exact HG2.out _)))
          refine wpQuiet_nil ?_
          rintro _ ⟨p, rfl⟩
          have hzp := p.old.size
          have q0 := grew_cell r0 (by omega) p
          have q1 := grew_cell r1 (by omega) p
          have g0 := grew_frz f0 (by omega) p
          have g1 := grew_frz f1 (by omega) p
          have kp : TurnIn 0 0 w p.at_ := TurnIn.of_below ((TurnIn.of_below p.old).base k3.to_below k3.size (by omega))
          have HF := Lib.hid (duo_store (R := w.heap.size + 2) (OwnT.nil 9 p.at_ (w.heap.size + 3) (by omega)) kp.to_below (by omega) (by omega) (by omega))
          clear e0 e1 e2 e3 kp
          go_wp2_with fail
          refine bodyPost_ret (v := .tuple #[.agg #[.slice none 0 0, .slice none 0 0], .bool false]) (by simp [results, Tryd.results9, go_sem, q0, q1, g0, g1]) rfl ?_
          exact ⟨_, _, rfl, HF.out.1, HF.out.2⟩
      · have HO : Hid (sadOk a q = false) := Lib.hid (by rw [HDEF.out]; simp [h3])
        have t1 : ((a.1.length : Int) != (q.1.length : Int)) = true := by simp; omega
        clear h1 h2 h3 HX HY b1 b2
        rw [HO.out, HNO.out HO.out]
        clear HDEF HNO
        generalize a.1.length = n at *
        generalize a.2.length = m at *
        generalize q.1.length = n2 at *
        generalize q.2.length = m2 at *
        obtain ⟨x0, x1, hK, z3, k3⟩ := three_boxes w (.slice (some ⟨b, off, none⟩) n c) (.slice B m d) (.slice (some ⟨b', off', none⟩) n2 c2) (.slice B2 m2 d2) (.slice none 0 0) (.slice none 0 0) 25
        have fx0 := three_frz w #[.slice (some ⟨b, off, none⟩) n c, .slice B m d] (.cells #[.slice (some ⟨b', off', none⟩) n2 c2, .slice B2 m2 d2] 25) (.cells #[.slice none 0 0, .slice none 0 0] 25) 25 0
        have fx1 := three_frz w #[.slice (some ⟨b, off, none⟩) n c, .slice B m d] (.cells #[.slice (some ⟨b', off', none⟩) n2 c2, .slice B2 m2 d2] 25) (.cells #[.slice none 0 0, .slice none 0 0] 25) 25 1
        obtain ⟨y0, y1, r0, r1, f0, f1⟩ := hK
        go_enter Tryd.func9, Tryd.ntmps9
        go_wp2_with fail
        generalize (((w.alloc (.cells #[.slice (some ⟨b, off, none⟩) n c, .slice B m d] 25)).alloc (.cells #[.slice (some ⟨b', off', none⟩) n2 c2, .slice B2 m2 d2] 25)).alloc (.cells #[.slice none 0 0, .slice none 0 0] 25)) = w3 at *
        have hz3 : w.heap.size + 3 ≤ w3.heap.size := by omega
        clear z3
        have e0 := grew_cell x0 (by omega)
        have e1 := grew_cell x1 (by omega)
        have e2 := grew_cell y0 (by omega)
        have e3 := grew_cell y1 (by omega)
        have HG1 := Lib.hid (fun p : Grew w3 => grew_bool (sGoodStripe_any _ _ a p.at_ ((HV.out.touch k3).below p.old) ((HU.out.touch k3).below p.old)))
        have HG2 := Lib.hid (fun p : Grew w3 => grew_bool (sGoodStripe_any _ _ q p.at_ ((HV2.out.touch k3).below p.old) ((HU2.out.touch k3).below p.old)))
        rw [HA.out] at HG1
        rw [HQ.out] at HG2
        have e4 := grew_cell (cell_turn k3 hcx hbl) (Nat.lt_of_lt_of_le hbl k3.size)
        have e5 := grew_cell (cell_turn k3 hcy hbl') (Nat.lt_of_lt_of_le hbl' k3.size)
        refine wp_region_grew (by kernel_rfl) (by kernel_rfl) ?_
        repeat (first | go_big_quiet_skip | quiet_step ((go_at_call 39; first | with_reducible exact HG1.out _ | exact HG2.out _)))
        refine wpQuiet_nil ?_
        rintro _ ⟨p, rfl⟩
        have hzp := p.old.size
        have q0 := grew_cell r0 (by omega) p
        have q1 := grew_cell r1 (by omega) p
        have g0 := grew_frz f0 (by omega) p
        have g1 := grew_frz f1 (by omega) p
        have kp : TurnIn 0 0 w p.at_ := TurnIn.of_below ((TurnIn.of_below p.old).base k3.to_below k3.size (by omega))
        have HF := Lib.hid (duo_store (R := w.heap.size + 2) (OwnT.nil 9 p.at_ (w.heap.size + 3) (by omega)) kp.to_below (by omega) (by omega) (by omega))
        clear e0 e1 e2 e3 kp
        go_wp2_with fail
        refine bodyPost_ret (v := .tuple #[.agg #[.slice none 0 0, .slice none 0 0], .bool false]) (by simp [results, Tryd.results9, go_sem, q0, q1, g0, g1]) rfl ?_
        exact ⟨_, _, rfl, HF.out.1, HF.out.2⟩
    · have HQ : Hid (strpOk q = false) := Lib.hid (by simpa using h2)
      have HO : Hid (sadOk a q = false) := Lib.hid (by rw [HDEF.out, HQ.out]; simp)
      clear h1 h2 b1
      obtain ⟨A, c, hvv⟩ := hv.len
      obtain ⟨A2, c2, hvv2⟩ := hv2.len
      rw [strs_length] at hvv hvv2
      subst hvv hvv2
      obtain ⟨B, d, huu⟩ := hu.len
      obtain ⟨B2, d2, huu2⟩ := hu2.len
      rw [strs_length] at huu huu2
      subst huu huu2
      clear hv hu hv2 hu2
      rw [HO.out, HNO.out HO.out]
      clear HDEF HNO
      generalize a.1.length = n at *
      generalize a.2.length = m at *
      generalize q.1.length = n2 at *
      generalize q.2.length = m2 at *
      obtain ⟨x0, x1, hK, z3, k3⟩ := three_boxes w (.slice A n c) (.slice B m d) (.slice A2 n2 c2) (.slice B2 m2 d2) (.slice none 0 0) (.slice none 0 0) 25
      have fx0 := three_frz w #[.slice A n c, .slice B m d] (.cells #[.slice A2 n2 c2, .slice B2 m2 d2] 25) (.cells #[.slice none 0 0, .slice none 0 0] 25) 25 0
      have fx1 := three_frz w #[.slice A n c, .slice B m d] (.cells #[.slice A2 n2 c2, .slice B2 m2 d2] 25) (.cells #[.slice none 0 0, .slice none 0 0] 25) 25 1
      obtain ⟨y0, y1, r0, r1, f0, f1⟩ := hK
      go_enter Tryd.func9, Tryd.ntmps9
      go_wp2_with fail
      generalize (((w.alloc (.cells #[.slice A n c, .slice B m d] 25)).alloc (.cells #[.slice A2 n2 c2, .slice B2 m2 d2] 25)).alloc (.cells #[.slice none 0 0, .slice none 0 0] 25)) = w3 at *
      have hz3 : w.heap.size + 3 ≤ w3.heap.size := by omega
      clear z3
      have e0 := grew_cell x0 (by omega)
      have e1 := grew_cell x1 (by omega)
      have e2 := grew_cell y0 (by omega)
      have e3 := grew_cell y1 (by omega)
      have HG1 := Lib.hid (fun p : Grew w3 => grew_bool (sGoodStripe_any _ _ a p.at_ ((HV.out.touch k3).below p.old) ((HU.out.touch k3).below p.old)))
      have HG2 := Lib.hid (fun p : Grew w3 => grew_bool (sGoodStripe_any _ _ q p.at_ ((HV2.out.touch k3).below p.old) ((HU2.out.touch k3).below p.old)))
      rw [HA.out] at HG1
      rw [HQ.out] at HG2
      refine wp_region_grew (by kernel_rfl) (by kernel_rfl) ?_
      repeat (first | go_big_quiet_skip | quiet_step ((go_at_call 39; first | with_reducible exact HG1.out _ | exact HG2.out _)))
      refine wpQuiet_nil ?_
      rintro _ ⟨p, rfl⟩
      have hzp := p.old.size
      have q0 := grew_cell r0 (by omega) p
      have q1 := grew_cell r1 (by omega) p
      have g0 := grew_frz f0 (by omega) p
      have g1 := grew_frz f1 (by omega) p
      have kp : TurnIn 0 0 w p.at_ := TurnIn.of_below ((TurnIn.of_below p.old).base k3.to_below k3.size (by omega))
      have HF := Lib.hid (duo_store (R := w.heap.size + 2) (OwnT.nil 9 p.at_ (w.heap.size + 3) (by omega)) kp.to_below (by omega) (by omega) (by omega))
      clear e0 e1 e2 e3 kp
      go_wp2_with fail
      refine bodyPost_ret (v := .tuple #[.agg #[.slice none 0 0, .slice none 0 0], .bool false]) (by simp [results, Tryd.results9, go_sem, q0, q1, g0, g1]) rfl ?_
      exact ⟨_, _, rfl, HF.out.1, HF.out.2⟩
  · have HA : Hid (strpOk a = false) := Lib.hid (by simpa using h1)
    have HO : Hid (sadOk a q = false) := Lib.hid (by rw [HDEF.out, HA.out]; simp)
    clear h1
    obtain ⟨A, c, hvv⟩ := hv.len
    obtain ⟨A2, c2, hvv2⟩ := hv2.len
    rw [strs_length] at hvv hvv2
    subst hvv hvv2
    obtain ⟨B, d, huu⟩ := hu.len
    obtain ⟨B2, d2, huu2⟩ := hu2.len
    rw [strs_length] at huu huu2
    subst huu huu2
    clear hv hu hv2 hu2
    rw [HO.out, HNO.out HO.out]
    clear HDEF HNO
    generalize a.1.length = n at *
    generalize a.2.length = m at *
    generalize q.1.length = n2 at *
    generalize q.2.length = m2 at *
    obtain ⟨x0, x1, hK, z3, k3⟩ := three_boxes w (.slice A n c) (.slice B m d) (.slice A2 n2 c2) (.slice B2 m2 d2) (.slice none 0 0) (.slice none 0 0) 25
    have fx0 := three_frz w #[.slice A n c, .slice B m d] (.cells #[.slice A2 n2 c2, .slice B2 m2 d2] 25) (.cells #[.slice none 0 0, .slice none 0 0] 25) 25 0
    have fx1 := three_frz w #[.slice A n c, .slice B m d] (.cells #[.slice A2 n2 c2, .slice B2 m2 d2] 25) (.cells #[.slice none 0 0, .slice none 0 0] 25) 25 1
    obtain ⟨y0, y1, r0, r1, f0, f1⟩ := hK
    go_enter Tryd.func9, Tryd.ntmps9
    go_wp2_with fail
    generalize (((w.alloc (.cells #[.slice A n c, .slice B m d] 25)).alloc (.cells #[.slice A2 n2 c2, .slice B2 m2 d2] 25)).alloc (.cells #[.slice none 0 0, .slice none 0 0] 25)) = w3 at *
    have hz3 : w.heap.size + 3 ≤ w3.heap.size := by omega
    clear z3
    have e0 := grew_cell x0 (by omega)
    have e1 := grew_cell x1 (by omega)
    have e2 := grew_cell y0 (by omega)
    have e3 := grew_cell y1 (by omega)
    have HG1 := Lib.hid (fun p : Grew w3 => grew_bool (sGoodStripe_any _ _ a p.at_ ((HV.out.touch k3).below p.old) ((HU.out.touch k3).below p.old)))
    have HG2 := Lib.hid (fun p : Grew w3 => grew_bool (sGoodStripe_any _ _ q p.at_ ((HV2.out.touch k3).below p.old) ((HU2.out.touch k3).below p.old)))
    rw [HA.out] at HG1
    refine wp_region_grew (by kernel_rfl) (by kernel_rfl) ?_
    repeat (first | go_big_quiet_skip | quiet_step ((go_at_call 39; first | with_reducible exact HG1.out _ | exact HG2.out _)))
    refine wpQuiet_nil ?_
    rintro _ ⟨p, rfl⟩
    have hzp := p.old.size
    have q0 := grew_cell r0 (by omega) p
    have q1 := grew_cell r1 (by omega) p
    have g0 := grew_frz f0 (by omega) p
    have g1 := grew_frz f1 (by omega) p
    have kp : TurnIn 0 0 w p.at_ := TurnIn.of_below ((TurnIn.of_below p.old).base k3.to_below k3.size (by omega))
    have HF := Lib.hid (duo_store (R := w.heap.size + 2) (OwnT.nil 9 p.at_ (w.heap.size + 3) (by omega)) kp.to_below (by omega) (by omega) (by omega))
    clear e0 e1 e2 e3 kp
    go_wp2_with fail
    refine bodyPost_ret (v := .tuple #[.agg #[.slice none 0 0, .slice none 0 0], .bool false]) (by simp [results, Tryd.results9, go_sem, q0, q1, g0, g1]) rfl ?_
    exact ⟨_, _, rfl, HF.out.1, HF.out.2⟩

end Go.Proofs.YtjgmegfbfjmnfaaDoor
