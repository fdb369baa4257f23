/- Joined texts: Mrg3. -/
import Derived.Deep.QuietTactic
import Derived.BigQuiet
import Derived.Deep.RegionHeld3
import Derived.Deep.CutRange
import Derived.Test.YtjgmegfbfjmnfaaDoorBd22
import Derived.Test.YtjgmegfbfjmnfaaDoorBd17
import Derived.Test.YtjgmegfbfjmnfaaDoorBd07
set_option linter.unusedSimpArgs false
set_option linter.unusedVariables false
/- MergeStripes, the model's. -/
namespace Go.Proofs.YtjgmegfbfjmnfaaDoor
open Go.RowKit G294

set_option maxRecDepth 100000 in
set_option maxHeartbeats 8000000 in
theorem sMergeStripes_own (v u v2 u2 : Value) (a q : Strp) (w : World) (hv : Seen w v (strs a.1)) (hu : Seen w u (strs a.2)) (hv2 : Seen w v2 (strs q.1)) (hu2 : Seen w u2 (strs q.2)) :
    Calls Tryd.prog 7 #[.agg #[v, u], .agg #[v2, u2]] w (RetTOk 9 w (mrgR a q) (mrgOk a q)) := by
  have HV := Lib.hid hv
  have HU := Lib.hid hu
  have HV2 := Lib.hid hv2
  have HU2 := Lib.hid hu2
  have HDEF : Hid (mrgOk a q = (strpOk a && (strpOk q && (decide (a.2.length = q.2.length) && (decide (firstLen a = firstLen q) && decide (a.1.length + q.1.length ≤ 16)))))) := Lib.hid rfl
  have HNO : Hid (mrgOk a q = false → mrgR a q = ([], [])) := Lib.hid mrgR_no
  by_cases h1 : strpOk a = true
  · have HA := Lib.hid h1
    have b1 := strpOk_b h1
    by_cases h2 : strpOk q = true
    · have HQ := Lib.hid h2
      have b2 := strpOk_b h2
      obtain ⟨b, off, c, rfl, hbl, hlm, hcx⟩ := seen_at hv (show 0 < a.1.length by omega)
      obtain ⟨b', off', c2, rfl, hbl', hlm', hcy⟩ := seen_at hv2 (show 0 < q.1.length by omega)
      rw [Nat.add_zero] at hcx hcy
      obtain ⟨B, d, huu⟩ := hu.len
      obtain ⟨B2, d2, huu2⟩ := hu2.len
      rw [strs_length] at huu huu2
      subst huu huu2
      have g1' : 0 < a.1.length := b1.1.1
      have g2' : 0 < q.1.length := b2.1.1
      obtain ⟨x, hx⟩ : ∃ x, x = a.1.getD 0 [] := ⟨_, rfl⟩
      obtain ⟨y, hy⟩ : ∃ y, y = q.1.getD 0 [] := ⟨_, rfl⟩
      have HX : Hid (firstLen a = x.length) := Lib.hid (by rw [hx]; rfl)
      have HY : Hid (firstLen q = y.length) := Lib.hid (by rw [hy]; rfl)
      rw [← hx] at hcx
      rw [← hy] at hcy
      have hsx := str_size x
      have hsy := str_size y
      clear hx hy hv hu hv2 hu2
      generalize x.length = lx at *
      generalize y.length = ly at *
      by_cases h4 : a.2.length = q.2.length
      · by_cases h5 : lx = ly
        · have t2 : ((a.2.length : Int) != (q.2.length : Int)) = false := by simp [h4]
          have t3 : ((lx : Int) != (ly : Int)) = false := by simp [h5]
          have hff : firstLen a = firstLen q := by rw [HX.out, HY.out, h5]
          have HSP := Lib.hid (mrg_spec h1 h2 hff)
          have HO : Hid (mrgOk a q = decide (a.1.length + q.1.length ≤ 16)) := Lib.hid (by rw [HDEF.out, h1, h2, HX.out, HY.out]; simp [h4, h5])
          have HLN : Hid (∀ i, i < a.2.length → i < q.2.length → (q.2.getD i []).length = (a.2.getD i []).length ∧ (a.2.getD i []).length ≤ 1000) := Lib.hid (fun i hi hj => by
            have e40 := strp_len40 h1
            rw [strp_len2 h1 hi, strp_len2 h2 hj]; omega)
          have bb1 := b1.1
          have bb2 := b1.2.1
          have bb3 := b2.1
          have bb4 := b2.2.1
          clear h1 h2 h5 HX HY HDEF hff
          obtain ⟨bp, offp, d2', hup, hblp, hlmp, hcellp⟩ := seen_cells (W := w) HU2.out (by omega)
          obtain ⟨rfl, rfl⟩ : B2 = some ⟨bp, offp, none⟩ ∧ d2 = d2' := by simpa using hup
          obtain ⟨ba, offa, da', hua, hbla, hlma, hcella⟩ := seen_cells (W := w) HU.out (by omega)
          obtain ⟨rfl, rfl⟩ : B = some ⟨ba, offa, none⟩ ∧ d = da' := by simpa using hua
          obtain ⟨b9, off9, c9, hdp, hbld, hlmd, hcelld⟩ := seen_cells (W := w) HV2.out (by omega)
          obtain ⟨⟨rfl, rfl⟩, rfl⟩ : (b' = b9 ∧ off' = off9) ∧ c2 = c9 := by simpa using hdp
          obtain ⟨b8, off8, c8, hdq, hblq, hlmq, hcellq⟩ := seen_cells (W := w) HV.out (by omega)
          obtain ⟨⟨rfl, rfl⟩, rfl⟩ : (b = b8 ∧ off = off8) ∧ c = c8 := by simpa using hdq
          have HCP := Lib.hid hcellp
          have HCA := Lib.hid hcella
          have HCD := Lib.hid hcelld
          have HCQ := Lib.hid hcellq
          have HL0 : Hid ((strs a.1).length = a.1.length) := Lib.hid (strs_length _)
          have HL1 : Hid ((strs q.1).length = q.1.length) := Lib.hid (strs_length _)
          have HLL : Hid ((a.1 ++ q.1).length = a.1.length + q.1.length) := Lib.hid (by simp)
          have HAP : Hid (strs (a.1 ++ q.1) = strs a.1 ++ strs q.1) := Lib.hid (strs_append _ _)
          clear hup hdp hua hdq hcellp hcelld hcella hcellq HNO
          obtain ⟨n, hn⟩ : ∃ n, n = a.1.length := ⟨_, rfl⟩
          obtain ⟨m, hm⟩ : ∃ m, m = a.2.length := ⟨_, rfl⟩
          obtain ⟨n2, hn2⟩ : ∃ n, n = q.1.length := ⟨_, rfl⟩
          obtain ⟨m2, hm2⟩ : ∃ m, m = q.2.length := ⟨_, rfl⟩
          have HN := Lib.hid hn
          have HM := Lib.hid hm
          have HN2 := Lib.hid hn2
          have HM2 := Lib.hid hm2
          rw [← hn] at HV hlm g1' HL0 HLL ⊢
          rw [← hm] at HU t2 hlma ⊢
          rw [← hn2] at HV2 hlm' g2' HL1 HLL ⊢
          rw [← hm2] at HU2 hlmp t2 ⊢
          have hnn : 1 ≤ n ∧ n ≤ 16 := by omega
          have hmm : 1 ≤ m ∧ m ≤ 4 := by omega
          have hnn2 : 1 ≤ n2 ∧ n2 ≤ 16 := by omega
          have HMM2 : Hid (m2 = m) := Lib.hid (by omega)
          clear hn hm hn2 hm2 b1 b2 h4 bb1 bb2 bb3 bb4
          obtain ⟨x0, x1, hK, z3, k3⟩ := three_boxes w (.slice (some ⟨b, off, none⟩) n c) (.slice (some ⟨ba, offa, none⟩) m d) (.slice (some ⟨b', off', none⟩) n2 c2) (.slice (some ⟨bp, offp, none⟩) m2 d2) (.slice none 0 0) (.slice none 0 0) 25
          obtain ⟨y0, y1, r0, r1, f0, f1⟩ := hK
          go_enter Tryd.func7, Tryd.ntmps7
          go_wp2_with fail
          generalize (((w.alloc (.cells #[.slice (some ⟨b, off, none⟩) n c, .slice (some ⟨ba, offa, none⟩) m d] 25)).alloc (.cells #[.slice (some ⟨b', off', none⟩) n2 c2, .slice (some ⟨bp, offp, none⟩) m2 d2] 25)).alloc (.cells #[.slice none 0 0, .slice none 0 0] 25)) = w3 at *
          have hz3 : w.heap.size + 3 ≤ w3.heap.size := by omega
          clear z3
          have e0 := grew_cell x0 (by omega)
          have e1 := grew_cell x1 (by omega)
          have e2 := grew_cell y0 (by omega)
          have e3 := grew_cell y1 (by omega)
          have HG1 := Lib.hid (fun p : Grew w3 => grew_bool (sGoodStripe_any _ _ a p.at_ ((HV.out.touch k3).below p.old) ((HU.out.touch k3).below p.old)))
          have HG2 := Lib.hid (fun p : Grew w3 => grew_bool (sGoodStripe_any _ _ q p.at_ ((HV2.out.touch k3).below p.old) ((HU2.out.touch k3).below p.old)))
          rw [HA.out] at HG1
          rw [HQ.out] at HG2
          have e4 := grew_cell (cell_turn k3 hcx hbl) (Nat.lt_of_lt_of_le hbl k3.size)
          have e5 := grew_cell (cell_turn k3 hcy hbl') (Nat.lt_of_lt_of_le hbl' k3.size)
          refine wp_region_grew (by kernel_rfl) (by kernel_rfl) ?_
          repeat (first | go_big_quiet_skip | quiet_step ((go_at_call 39; first | with_reducible exact HG1.out _ | exact HG2.out _)))
          refine wpQuiet_nil ?_
          rintro _ ⟨p, rfl⟩
          have hzp := p.old.size
          have q0 := grew_cell r0 (by omega) p
          have q1 := grew_cell r1 (by omega) p
          have g0 := grew_frz f0 (by omega) p
          have g1 := grew_frz f1 (by omega) p
          have kp : TurnIn 0 0 w p.at_ := TurnIn.of_below ((TurnIn.of_below p.old).base k3.to_below k3.size (by omega))
          have x0' := e0 p
          have x1' := e1 p
          have y0' := e2 p
          have y1' := e3 p
          have hz4 : w.heap.size + 3 ≤ p.at_.heap.size := by omega
          clear e0 e1 e2 e3 e4 e5 HG1 HG2 x0 x1 y0 y1 r0 r1 f0 f1 hzp
          generalize p.at_ = w4 at *
          clear p k3 hz3 hcx hcy hsx hsy t2 t3
          have hS0 : w4.drew.cell? ⟨w.heap.size, 0, none⟩ = some (.slice (some ⟨b, off, none⟩) n c) ∧ w4.drew.cell? ⟨w.heap.size + 1, 0, none⟩ = some (.slice (some ⟨b', off', none⟩) n2 c2) := ⟨x0', y0'⟩
          have HSX : Hid (∀ W, Below w4.heap.size w4 W → (W.cell? ⟨w.heap.size, 0, none⟩ = some (.slice (some ⟨b, off, none⟩) n c) ∧ W.cell? ⟨w.heap.size + 1, 0, none⟩ = some (.slice (some ⟨b', off', none⟩) n2 c2))) := Lib.hid (fun W hb => ⟨(hb.cell (p := ⟨w.heap.size, 0, none⟩) (show w.heap.size < w4.heap.size by omega)).trans x0', (hb.cell (p := ⟨w.heap.size + 1, 0, none⟩) (show w.heap.size + 1 < w4.heap.size by omega)).trans y0'⟩)
          have HW : Hid (∀ W, Below w4.heap.size w4 W → Below w.heap.size w W) := Lib.hid (fun W h => (TurnIn.of_below h).base kp.to_below kp.size (by omega))
          have hbL : Below w4.heap.size w4 (w4.alloc (.cells #[] 9)).drew := ((Below.refl _ _).alloc (Nat.le_refl _) _).drew
          have hbZ : Below w4.heap.size w4 (w4.alloc (.cells #[.slice none 0 0, .slice none 0 0] 25)).drew := ((Below.refl _ _).alloc (Nat.le_refl _) _).drew
          have hbLZ : Below w4.heap.size w4 ((w4.alloc (.cells #[] 9)).alloc (.cells #[.slice none 0 0, .slice none 0 0] 25)).drew := (((Below.refl _ _).alloc (Nat.le_refl _) _).alloc (by simp) _).drew
          have hbZL : Below w4.heap.size w4 ((w4.alloc (.cells #[.slice none 0 0, .slice none 0 0] 25)).alloc (.cells #[] 9)).drew := (((Below.refl _ _).alloc (Nat.le_refl _) _).alloc (by simp) _).drew
          go_wp2_with fail
          go_cut [6] from 40 to 47 (fun s6 wx => MBox 9 w4 (a.1 ++ q.1) s6 wx)
          case first =>
            go_region_held3 (fun W => W.cell? ⟨w.heap.size, 0, none⟩ = some (.slice (some ⟨b, off, none⟩) n c) ∧ W.cell? ⟨w.heap.size + 1, 0, none⟩ = some (.slice (some ⟨b', off', none⟩) n2 c2))
              (first | exact hS0 | exact HSX.out _ hbL | exact HSX.out _ hbZ | exact HSX.out _ hbLZ | exact HSX.out _ hbZL | exact HSX.out _ hb5 | exact HSX.out _ (hb5.alloc hb5.size _) | exact HSX.out _ hb6 | exact HSX.out _ (hb6.alloc hb6.size _) | exact HSX.out _ ((hb6.setCell (p := ⟨w4.heap.size, 0, none⟩) (Nat.le_refl _) _).setCell (p := ⟨w4.heap.size, 1, none⟩) (Nat.le_refl _) _) | exact HSX.out _ ((hb6.setCell (p := ⟨w4.heap.size + 1, 0, none⟩) (Nat.le_succ _) _).setCell (p := ⟨w4.heap.size + 1, 1, none⟩) (Nat.le_succ _) _) | exact HSX.out _ ((hb6.setCell (p := ⟨w5.heap.size, 0, none⟩) s5 _).setCell (p := ⟨w5.heap.size, 1, none⟩) s5 _))
              (first
                | (refine step_appendLit (by rfl) _ _ _ (by rfl) 9 _ _ Tryd.underlying23 infoStr rfl _ (by rfl) ⟨b, off, none⟩ n c (strs a.1) (by rfl) hnn.1 HL0.out (by first | exact HCQ.out _ (HW.out _ hbL) | exact HCQ.out _ (HW.out _ hbLZ) | exact HCQ.out _ (HW.out _ hbZL)) (strs_oneC _) (by omega) (by omega) ?_; intro gg cp1 w5 HG1 ho1 k5; have hb5 : Below w4.heap.size w4 w5 := (by first | exact k5.base hbL hbL.size (by omega) | exact k5.base hbLZ hbLZ.size (by omega) | exact k5.base hbZL hbZL.size (by omega)); have s5 := hb5.size; have HYC := Lib.hid (HCD.out _ (HW.out _ hb5)); have HYD := Lib.hid (HCD.out _ (HW.out _ (hb5.alloc hb5.size (.cells #[.slice none 0 0, .slice none 0 0] 25)))); have hgg : w4.heap.size ≤ gg := (by have h9 := HG1.out; first | omega | (simp at h9; omega)); have hgw := (ho1.lt gg rfl).2; (first | (have fb := boxD_made (undrew k5); rw [World.size_alloc] at fb; have hbg : w4.heap.size + 1 < gg := (by have h9 := HG1.out; simp at h9; omega); obtain ⟨b0, b1, b2, b3, b4⟩ := fb) | (have fb := boxD_made (turn_trans (turn_alloc _ _) (undrew k5) (by omega)); have hbg : w4.heap.size < gg := (by have h9 := HG1.out; simp at h9; omega); obtain ⟨b0, b1, b2, b3, b4⟩ := fb) | skip))
                | (refine step_appendG (by rfl) _ _ _ (by rfl) gg 9 _ _ Tryd.underlying23 infoStr rfl (.slice (some ⟨gg, 0, none⟩) n cp1) n (strs a.1) (by rfl) (by first | exact ho1 | exact ho1.alloc _) ⟨b', off', none⟩ n2 c2 (strs q.1) (by rfl) HL1.out (by first | exact HYC.out | exact HYD.out) (strs_oneC _) (by omega) (by omega) (by first | omega | (simp; omega)) ?_; intro v6 w6 ho2 hg2 hv2; obtain ⟨A6, n6, c6, rfl⟩ := own_isSlice ho2; have hb6 : Below w4.heap.size w4 w6 := (by first | exact hb5.grown hg2 s5 (fun g e => by simp [Value.ownBlock] at e; omega) | exact (hb5.alloc hb5.size _).grown hg2 (by simp; omega) (fun g e => by simp [Value.ownBlock] at e; omega)); have s6 := hb6.size; (first | (have fb := boxD_grown ⟨b0, b1, b2, b3, b4⟩ hg2 (by simp [Value.ownBlock]; omega); obtain ⟨b0, b1, b2, b3, b4⟩ := fb) | (have fb := boxD_grown (boxD_made (T := 25) (TurnIn.refl (w5.alloc (.cells #[.slice none 0 0, .slice none 0 0] 25)))) hg2 (by simp [Value.ownBlock]; omega); obtain ⟨b0, b1, b2, b3, b4⟩ := fb) | skip)))
            all_goals
              have hO : OwnStrs 9 w6 gg w6.heap.size (.slice A6 n6 c6) (a.1 ++ q.1) := ⟨by rw [HLL.out, HAP.out]; exact ho2, Nat.le_refl _, fun g e => (ho2.lt g e).2⟩
              go_wp2_with fail
              go_meet
              first
                | exact mbox_new (TurnIn.of_below hb6) hO hgg
                | exact mbox_set ⟨b0, b1, b2, b3, b4⟩ (fun g e => by rcases hv2 with h | h <;> (rw [e] at h; simp [Value.ownBlock] at h; omega)) (by omega) (TurnIn.of_below hb6) hO hgg
          case rest =>
            obtain ⟨B6, xd, lod, rfl, hbx, hne, hOD, hlod, hB6, k5⟩ := hcut
            generalize hwc : wc = w5 at *
            have hlod2 : lod ≤ w5.heap.size := by obtain ⟨g, _, _, h1, h2, _⟩ := hOD.shape (by rw [HLL.out]; omega); omega
            obtain ⟨AD, nd, cd, rfl⟩ := hOD.isSlice
            have s5 := k5.size
            have hB6' := hbx.2.2.2.2
            have x1w := cell_turn k5 x1' (by omega)
            have hMI : MInv 9 w w5 B6 lod w5.heap.size (.slice AD nd cd) (.slice none 0 0) (a.1 ++ q.1) (textsF 0 (mrgP a q)) (.slice (some ⟨b, off, none⟩) n c) (.slice (some ⟨b', off', none⟩) n2 c2) (.slice (some ⟨bp, offp, none⟩) m2 d2) := ⟨hbx, hOD, OwnStrs.nil _ _ _, cell_turn k5 x0' (by omega), ⟨cell_turn k5 y0' (by omega), cell_turn k5 y1' (by omega), cell_turn k5 q0 (by omega), cell_turn k5 q1 (by omega), frozen_turn k5 g0 (by omega), frozen_turn k5 g1 (by omega)⟩, k5.base kp.to_below (by omega) (by omega), hB6', by omega, by omega, hne⟩
            have HMI := Lib.hid hMI
            have hz5 : w.heap.size + 3 ≤ w5.heap.size := by omega
            clear hwc HSX hS0 hbL hbZ hbLZ hbZL hMI hbx hOD hne x0' x1' y0' y1' q0 q1 g0 g1 kp k5
            go_wp2_with fail
            go_loopw [51] (fun i wr => ∃ (k : Nat) (o : Value), k ≤ m ∧ i = .int .i64 k ∧ w5.heap.size ≤ wr.heap.size ∧ Hid (MInv 9 w wr B6 lod w5.heap.size (.slice AD nd cd) o (a.1 ++ q.1) (textsF k (mrgP a q)) (.slice (some ⟨b, off, none⟩) n c) (.slice (some ⟨b', off', none⟩) n2 c2) (.slice (some ⟨bp, offp, none⟩) m2 d2))) (fun i _ => m - (intOf i).toNat)
            case atStart => exact ⟨0, _, Nat.zero_le _, rfl, Nat.le_refl _, HMI⟩
            case round =>
              obtain ⟨k, o, hk, rfl, hszr, HMR⟩ := hrel
              clear HMI
              obtain ⟨Ao, no, co, rfl⟩ := HMR.out.par.isSlice
              by_cases hlt : k < m
              · have hki : (k : Int) < (m : Int) := by omega
                have hkj : (k : Int) < (m2 : Int) := by have h9 := HMM2.out; omega
                have hka : k < a.2.length := by rw [← HM.out]; exact hlt
                have hkq : k < q.2.length := by have h9 := HMM2.out; rw [← HM2.out]; omega
                have hold := HMR.out.old
                have hcx : wr.cell? ⟨ba, offa + k, none⟩ = some (.string (str (a.2.getD k []))) := by
                  have := HCA.out _ hold k _ (strs_get a.2 k hka)
                  rw [Addr.add_lit] at this
                  rw [this]; simp [List.getD, hka]
                have hcy : wr.cell? ⟨bp, offp + k, none⟩ = some (.string (str (q.2.getD k []))) := by
                  have := HCP.out _ hold k _ (strs_get q.2 k hkq)
                  rw [Addr.add_lit] at this
                  rw [this]; simp [List.getD, hkq]
                have HLX := Lib.hid (HLN.out k hka hkq)
                have HFX : Hid (mrgP a q k = plusL (a.2.getD k []) (prmF k n) (q.2.getD k [])) := Lib.hid (by rw [HN.out]; rfl)
                have HNX := Lib.hid (textsF_succ k (mrgP a q))
                have HTL : Hid ((textsF (k + 1) (mrgP a q)).length = k + 1) := Lib.hid (textsF_length _ _)
                have HTK : Hid ((textsF k (mrgP a q)).length = k) := Lib.hid (textsF_length _ _)
                rw [HFX.out] at HNX
                generalize a.2.getD k [] = x at *
                generalize q.2.getD k [] = y at *
                have hbx := HMR.out.box.2.1
                have ha0 := HMR.out.a0
                have hbq := HMR.out.kept.x1
                have hbpl : bp < wr.heap.size := Nat.lt_of_lt_of_le hblp hold.size
                have h1b := HMR.out.hB
                have HOLD := Lib.hid hold
                have HP1 : Hid (∀ W, Calls Tryd.prog 41 #[.int .u8 3, .int .i64 k] W fun e w' => e = .returned (.int .u8 ((powB 3 k).toNat : Int)) ∧ W = w') := Lib.hid (fun W => l1Power_u8 3 k (by omega) W)
                have HP2 : Hid (∀ W, Calls Tryd.prog 41 #[.int .u8 ((powB 3 k).toNat : Int), .int .i64 n] W fun e w' => e = .returned (.int .u8 ((prmF k n).toNat : Int)) ∧ W = w') := Lib.hid (fun W => l1Power_u8 (powB 3 k) n (by omega) W)
                clear hold
                go_wp2_with fail
                have hS : (fun W : World => W.cell? ⟨B6, 1, none⟩ = some (.slice Ao no co) ∧ W.cell? ⟨w.heap.size, 0, none⟩ = some (.slice (some ⟨b, off, none⟩) n c) ∧ W.cell? ⟨w.heap.size + 1, 1, none⟩ = some (.slice (some ⟨bp, offp, none⟩) m2 d2) ∧ W.cell? ⟨bp, offp + k, none⟩ = some (.string (str y))) wr.drew := ⟨hbx, ha0, hbq, hcy⟩
                refine wp_region_tail (fun W : World => W.cell? ⟨B6, 1, none⟩ = some (.slice Ao no co) ∧ W.cell? ⟨w.heap.size, 0, none⟩ = some (.slice (some ⟨b, off, none⟩) n c) ∧ W.cell? ⟨w.heap.size + 1, 1, none⟩ = some (.slice (some ⟨bp, offp, none⟩) m2 d2) ∧ W.cell? ⟨bp, offp + k, none⟩ = some (.string (str y))) 18 (by kernel_rfl) ?_
                refine wpAnyT_take (i := 0) (oi := _) (v := ?v0) rfl (by kernel_rfl) (by kernel_rfl) (by kernel_rfl) (by kernel_rfl) (fun _ _ _ h => h) (Or.inl ⟨by rfl, ?hy0⟩) hS ?rest0
                case hy0 => (intro W hW; obtain ⟨e1, e2, e3, e4⟩ := hW; go_simp; try with_reducible rfl)
                simp only [Act.put, List.setIfInBounds_toArray, List.set_cons_zero, List.set_cons_succ]
                refine wpAnyT_take (i := 1) (oi := _) (v := ?v1) rfl (by kernel_rfl) (by kernel_rfl) (by kernel_rfl) (by kernel_rfl) (fun _ _ _ h => h) (Or.inl ⟨by rfl, ?hy1⟩) hS ?rest1
                case hy1 => (intro W hW; obtain ⟨e1, e2, e3, e4⟩ := hW; go_simp; try with_reducible rfl)
                simp only [Act.put, List.setIfInBounds_toArray, List.set_cons_zero, List.set_cons_succ]
                refine wpAnyT_take (i := 2) (oi := _) (v := ?v2) rfl (by kernel_rfl) (by kernel_rfl) (by kernel_rfl) (by kernel_rfl) (fun _ _ _ h => h) (Or.inl ⟨by rfl, ?hy2⟩) hS ?rest2
                case hy2 => (intro W hW; obtain ⟨e1, e2, e3, e4⟩ := hW; go_simp; try with_reducible rfl)
                simp only [Act.put, List.setIfInBounds_toArray, List.set_cons_zero, List.set_cons_succ]
                refine wpAnyT_take (i := 3) (oi := _) (v := ?v3) rfl (by kernel_rfl) (by kernel_rfl) (by kernel_rfl) (by kernel_rfl) (fun _ _ _ h => h) (Or.inl ⟨by rfl, ?hy3⟩) hS ?rest3
                case hy3 => (intro W hW; obtain ⟨e1, e2, e3, e4⟩ := hW; go_simp; try with_reducible rfl)
                simp only [Act.put, List.setIfInBounds_toArray, List.set_cons_zero, List.set_cons_succ]
                refine wpAnyT_take (i := 5) (oi := _) (v := ?v5) rfl (by kernel_rfl) (by kernel_rfl) (by kernel_rfl) (by kernel_rfl) (fun _ _ _ h => h) (Or.inl ⟨by rfl, ?hy5⟩) hS ?rest5
                case hy5 => (intro W hW; obtain ⟨e1, e2, e3, e4⟩ := hW; go_simp; try with_reducible rfl)
                simp only [Act.put, List.setIfInBounds_toArray, List.set_cons_zero, List.set_cons_succ]
                refine wpAnyT_take (i := 6) (oi := _) (v := ?v6) rfl (by kernel_rfl) (by kernel_rfl) (by kernel_rfl) (by kernel_rfl) (fun _ _ _ h => h) (Or.inl ⟨by rfl, ?hy6⟩) hS ?rest6
                case hy6 => (intro W hW; obtain ⟨e1, e2, e3, e4⟩ := hW; go_simp; try with_reducible rfl)
                simp only [Act.put, List.setIfInBounds_toArray, List.set_cons_zero, List.set_cons_succ]
                refine wpAnyT_take (i := 7) (oi := _) (v := ?v7) rfl (by kernel_rfl) (by kernel_rfl) (by kernel_rfl) (by kernel_rfl) (fun _ _ _ h => h) (Or.inl ⟨by rfl, ?hy7⟩) hS ?rest7
                case hy7 => (intro W hW; obtain ⟨e1, e2, e3, e4⟩ := hW; go_simp; try with_reducible rfl)
                simp only [Act.put, List.setIfInBounds_toArray, List.set_cons_zero, List.set_cons_succ]
                refine wpAnyT_take (i := 9) (oi := _) (v := ?v9) rfl (by kernel_rfl) (by kernel_rfl) (by kernel_rfl) (by kernel_rfl) (fun _ _ _ h => h) (Or.inl ⟨by rfl, ?hy9⟩) hS ?rest9
                case hy9 => (intro W hW; obtain ⟨e1, e2, e3, e4⟩ := hW; go_simp; try with_reducible rfl)
                simp only [Act.put, List.setIfInBounds_toArray, List.set_cons_zero, List.set_cons_succ]
                refine wpAnyT_take (i := 10) (oi := _) (v := ?v10) rfl (by kernel_rfl) (by kernel_rfl) (by kernel_rfl) (by kernel_rfl) (fun _ _ _ h => h) (Or.inl ⟨by rfl, ?hy10⟩) hS ?rest10
                case hy10 => (intro W hW; obtain ⟨e1, e2, e3, e4⟩ := hW; go_simp; try with_reducible rfl)
                simp only [Act.put, List.setIfInBounds_toArray, List.set_cons_zero, List.set_cons_succ]
                refine wpAnyT_take (i := 11) (oi := _) (v := ?v11) rfl (by kernel_rfl) (by kernel_rfl) (by kernel_rfl) (by kernel_rfl) (fun _ _ _ h => h) (Or.inl ⟨by rfl, ?hy11⟩) hS ?rest11
                case hy11 => (intro W hW; obtain ⟨e1, e2, e3, e4⟩ := hW; go_simp; try with_reducible rfl)
                simp only [Act.put, List.setIfInBounds_toArray, List.set_cons_zero, List.set_cons_succ]
                refine wpAnyT_take (i := 12) (oi := _) (v := ?v12) rfl (by kernel_rfl) (by kernel_rfl) (by kernel_rfl) (by kernel_rfl) (fun _ _ _ h => h) (Or.inl ⟨by rfl, ?hy12⟩) hS ?rest12
                case hy12 => (intro W hW; obtain ⟨e1, e2, e3, e4⟩ := hW; go_simp; try with_reducible rfl)
                simp only [Act.put, List.setIfInBounds_toArray, List.set_cons_zero, List.set_cons_succ]
                refine wpAnyT_take (i := 13) (oi := _) (v := ?v13) rfl (by kernel_rfl) (by kernel_rfl) (by kernel_rfl) (by kernel_rfl) (fun _ _ _ h => h) (Or.inl ⟨by rfl, ?hy13⟩) hS ?rest13
                case hy13 => (intro W hW; obtain ⟨e1, e2, e3, e4⟩ := hW; go_simp; try with_reducible rfl)
                simp only [Act.put, List.setIfInBounds_toArray, List.set_cons_zero, List.set_cons_succ]
                refine wpAnyT_one (i := 4) (o := _) rfl (by kernel_rfl) (fun K hK => ?_)
                go_simp
                refine (HP1.out _).mono ?_
                rintro e w' ⟨rfl, rfl⟩
                refine hK.out _ _ (fun _ => hS) ?_
                clear hK K
                try simp only [Act.put, List.setIfInBounds_toArray, List.set_cons_zero, List.set_cons_succ]
                refine wpAnyT_one (i := 8) (o := _) rfl (by kernel_rfl) (fun K hK => ?_)
                go_simp
                refine (HP2.out _).mono ?_
                rintro e w' ⟨rfl, rfl⟩
                refine hK.out _ _ (fun _ => hS) ?_
                clear hK K
                try simp only [Act.put, List.setIfInBounds_toArray, List.set_cons_zero, List.set_cons_succ]
                refine wpAnyT_one (i := 14) (o := _) rfl (by kernel_rfl) (fun K hK => ?_)
                go_simp
                refine (l6Plus_own x y (prmF k n) _ HLX.out.1 HLX.out.2).mono ?_
                rintro e w7 ⟨rfl, k7'⟩
                have k7 := undrew k7'
                have s7 := k7.size
                generalize hpl : plusL x (prmF k n) y = pl at *
                clear hpl
                have t0 := cell_turn k7 hbx (by omega)
                have t1 := cell_turn k7 ha0 (by omega)
                have t2 := cell_turn k7 hbq (by omega)
                have t3 := cell_turn k7 hcy hbpl
                refine hK.out _ _ (fun _ => ⟨t0, t1, t2, t3⟩) ?_
                clear hK K hS
                try simp only [Act.put, List.setIfInBounds_toArray, List.set_cons_zero, List.set_cons_succ]
                refine wpAnyT_one (i := 15) (o := _) rfl (by kernel_rfl) (fun K hK => ?_)
                go_simp
                have aa := turn_alloc w7 (.cells #[.string (str pl)] 9)
                refine hK.out _ _ (fun _ => ⟨cell_turn aa t0 (by omega), cell_turn aa t1 (by omega), cell_turn aa t2 (by omega), cell_turn aa t3 (by omega)⟩) ?_
                clear hK K
                try simp only [Act.put, List.setIfInBounds_toArray, List.set_cons_zero, List.set_cons_succ]
                refine wpAnyT_one (i := 16) (o := _) rfl (by kernel_rfl) (fun K hK => ?_)
                have hkA := turn_trans k7 aa (by omega)
                have hown : (w7.alloc (.cells #[.string (str pl)] 9)).ownsRow w5.heap.size 9 1 (.slice Ao no co) k (strs (textsF k (mrgP a q))) := by
                  have h9 := (HMR.out.par.keep hkA (by omega)).1
                  rwa [HTK.out] at h9
                refine step_append1 (by rfl) _ _ _ (by rfl) w5.heap.size 9 _ _ Tryd.underlying23 infoStr rfl (.slice Ao no co) k (strs (textsF k (mrgP a q))) (by rfl) hown w7.heap.size (.string (str pl)) (by rfl) (by simp) (by rfl) (by omega) (by omega) (by simp; omega) ?_
                intro v8 w8 ho8 hg8 hv8
                obtain ⟨A8, n8, c8, rfl⟩ := own_isSlice ho8
                have ho9 : w8.ownsRow w5.heap.size 9 1 (.slice A8 n8 c8) (textsF (k + 1) (mrgP a q)).length (strs (textsF (k + 1) (mrgP a q))) := by rw [HTL.out, HNX.out]; exact ho8
                have HM8 := Lib.hid (HMR.out.next hkA ho9 hg8)
                have hs8 : w5.heap.size ≤ (w8.setCell ⟨B6, 1, none⟩ (.slice A8 n8 c8)).heap.size := by have e : (w8.setCell ⟨B6, 1, none⟩ (.slice A8 n8 c8)).heap.size = w8.heap.size := (by simp); have := hg8.size; have := aa.size; omega
                have hneA : (Value.slice Ao no co).ownBlock ≠ some B6 := fun e => by have := (HMR.out.par.1.lt B6 e).1; omega
                have hneB : (Value.slice Ao no co).ownBlock ≠ some w.heap.size := fun e => by have := (HMR.out.par.1.lt _ e).1; omega
                have hneC : (Value.slice Ao no co).ownBlock ≠ some (w.heap.size + 1) := fun e => by have := (HMR.out.par.1.lt _ e).1; omega
                have hneD : (Value.slice Ao no co).ownBlock ≠ some bp := fun e => by have := (HMR.out.par.1.lt _ e).1; omega
                have v0 := (cell_past hkA hg8 hneA (by omega) 1).trans hbx
                have v1 := (cell_past hkA hg8 hneB (by omega) 0).trans ha0
                have v2 := (cell_past hkA hg8 hneC (by omega) 1).trans hbq
                have v3 := (cell_past hkA hg8 hneD hbpl (offp + k)).trans hcy
                have v4 := (frozen_past hkA hg8 hneA (by omega) 1).trans HMR.out.box.2.2.2.1
                refine hK.out _ _ (fun _ => ⟨v0, v1, v2, v3⟩) ?_
                clear hK K
                try simp only [Act.put, List.setIfInBounds_toArray, List.set_cons_zero, List.set_cons_succ]
                refine wpAnyT_one (i := 17) (o := _) rfl (by kernel_rfl) (fun K hK => ?_)
                go_simp
                refine hK.out _ _ (fun _ => ⟨v0, v1, v2, v3⟩) ?_
                clear hK K
                try simp only [Act.put, List.setIfInBounds_toArray, List.set_cons_zero, List.set_cons_succ]
                refine wpAnyT_one (i := 18) (o := _) rfl (by kernel_rfl) (fun K hK => ?_)
                go_simp
                refine hK.out _ _ (fun h => absurd rfl h) ?_
                clear hK K
                try simp only [Act.put, List.setIfInBounds_toArray, List.set_cons_zero, List.set_cons_succ]
                refine wpAnyT_done (by kernel_rfl) ?_ _
                clear t0 t1 t2 t3 k7 k7' hcx hcy hbx ha0 hbq v0 v1 v2 v3 v4 hown ho8 ho9 hg8 hv8 hkA aa
                go_wp2_with fail
                go_roundw
                case rel => exact ⟨k + 1, _, by omega, by go_num, hs8, HM8⟩
                case measure => simp [intOf]; omega
              · obtain rfl : m = k := by omega
                have hki : ¬ (m : Int) < (m : Int) := by omega
                have hcz := HMR.out.box.1
                have hcz' := HMR.out.box.2.1
                have hB6w := HMR.out.box.2.2.2.2
                have HGD := Lib.hid (sGoodStripe_any (.slice AD nd cd) (.slice Ao no co) (a.1 ++ q.1, textsF m (mrgP a q)) wr HMR.out.data.seen HMR.out.par.seen)
                have HSE : Hid (strpOk (a.1 ++ q.1, textsF m (mrgP a q)) = mrgOk a q) := Lib.hid (by rw [HO.out, ← HSP.out, HM.out]; rfl)
                rw [HSE.out] at HGD
                by_cases hok : mrgOk a q = true
                · have HOK := Lib.hid hok
                  have HR : Hid (mrgR a q = (a.1 ++ q.1, textsF m (mrgP a q))) := Lib.hid (by rw [mrgR_yes hok, HM.out]; rfl)
                  rw [HOK.out] at HGD
                  clear hok
                  go_wp2_with fail
                  refine HGD.out.mono ?_
                  rintro e w8 ⟨rfl, k8⟩
                  have s8 := k8.size
                  obtain ⟨_, _, q0, q1, g0, g1'⟩ := HMR.out.kept.turn k8 (by omega) (by omega)
                  have hd0 := cell_turn k8 hcz hB6w
                  have hd1 := cell_turn k8 hcz' hB6w
                  have hO : OwnT 9 w8 lod wr.heap.size (.slice AD nd cd) (.slice Ao no co) (a.1 ++ q.1, textsF m (mrgP a q)) := ⟨w5.heap.size, hlod2, hszr, HMR.out.data.keep k8 (by omega), HMR.out.par.keep k8 (by omega)⟩
                  have HF := Lib.hid (duo_store (R := w.heap.size + 2) hO (k8.base HMR.out.old (by omega) (by omega)) (by omega) (by have := HMR.out.hlo; omega) (by have := HMR.out.hlo; omega))
                  clear hO k8 HMR HGD
                  go_wp2_with fail
                  refine bodyPost_ret (v := .tuple #[.agg #[.slice AD nd cd, .slice Ao no co], .bool true]) (by simp [results, Tryd.results7, go_sem, q0, q1, g0, g1']) rfl ?_
                  exact ⟨_, _, by rw [HOK.out], by rw [HR.out]; exact HF.out.1, HF.out.2⟩
                · have HOK : Hid (mrgOk a q = false) := Lib.hid (by simpa using hok)
                  have HR := Lib.hid (mrgR_no HOK.out)
                  rw [HOK.out] at HGD
                  clear hok
                  go_wp2_with fail
                  refine HGD.out.mono ?_
                  rintro e w8 ⟨rfl, k8⟩
                  have s8 := k8.size
                  obtain ⟨_, _, q0, q1, g0, g1'⟩ := HMR.out.kept.turn k8 (by omega) (by omega)
                  have HF := Lib.hid (duo_store (R := w.heap.size + 2) (OwnT.nil 9 w8 (w.heap.size + 3) (by omega)) (k8.base HMR.out.old (by omega) (by omega)) (by omega) (by omega) (by omega))
                  clear k8 HMR HGD
                  go_wp2_with fail
                  refine bodyPost_ret (v := .tuple #[.agg #[.slice none 0 0, .slice none 0 0], .bool false]) (by simp [results, Tryd.results7, go_sem, q0, q1, g0, g1']) rfl ?_
                  exact ⟨_, _, by rw [HOK.out], by rw [HR.out]; exact HF.out.1, HF.out.2⟩
        · have HO : Hid (mrgOk a q = false) := Lib.hid (by rw [HDEF.out, HX.out, HY.out]; simp [h5])
          have t2 : ((a.2.length : Int) != (q.2.length : Int)) = false := by simp [h4]
          have t3 : ((lx : Int) != (ly : Int)) = true := by simp; omega
          clear h1 h2 h4 h5 HX HY b1 b2
          rw [HO.out, HNO.out HO.out]
          clear HDEF HNO
          generalize a.1.length = n at *
          generalize a.2.length = m at *
          generalize q.1.length = n2 at *
          generalize q.2.length = m2 at *
          obtain ⟨x0, x1, hK, z3, k3⟩ := three_boxes w (.slice (some ⟨b, off, none⟩) n c) (.slice B m d) (.slice (some ⟨b', off', none⟩) n2 c2) (.slice B2 m2 d2) (.slice none 0 0) (.slice none 0 0) 25
          obtain ⟨y0, y1, r0, r1, f0, f1⟩ := hK
          go_enter Tryd.func7, Tryd.ntmps7
          go_wp2_with fail
          generalize (((w.alloc (.cells #[.slice (some ⟨b, off, none⟩) n c, .slice B m d] 25)).alloc (.cells #[.slice (some ⟨b', off', none⟩) n2 c2, .slice B2 m2 d2] 25)).alloc (.cells #[.slice none 0 0, .slice none 0 0] 25)) = w3 at *
          have hz3 : w.heap.size + 3 ≤ w3.heap.size := by omega
          clear z3
          have e0 := grew_cell x0 (by omega)
          have e1 := grew_cell x1 (by omega)
          have e2 := grew_cell y0 (by omega)
          have e3 := grew_cell y1 (by omega)
          have HG1 := Lib.hid (fun p : Grew w3 => grew_bool (sGoodStripe_any _ _ a p.at_ ((HV.out.touch k3).below p.old) ((HU.out.touch k3).below p.old)))
          have HG2 := Lib.hid (fun p : Grew w3 => grew_bool (sGoodStripe_any _ _ q p.at_ ((HV2.out.touch k3).below p.old) ((HU2.out.touch k3).below p.old)))
          rw [HA.out] at HG1
          rw [HQ.out] at HG2
          have e4 := grew_cell (cell_turn k3 hcx hbl) (Nat.lt_of_lt_of_le hbl k3.size)
          have e5 := grew_cell (cell_turn k3 hcy hbl') (Nat.lt_of_lt_of_le hbl' k3.size)
          refine wp_region_grew (by kernel_rfl) (by kernel_rfl) ?_
          repeat (first | go_big_quiet_skip | quiet_step ((go_at_call 39; first | with_reducible exact HG1.out _ | exact HG2.out _)))
          refine wpQuiet_nil ?_
          rintro _ ⟨p, rfl⟩
          have hzp := p.old.size
          have q0 := grew_cell r0 (by omega) p
          have q1 := grew_cell r1 (by omega) p
          have g0 := grew_frz f0 (by omega) p
          have g1 := grew_frz f1 (by omega) p
          have kp : TurnIn 0 0 w p.at_ := TurnIn.of_below ((TurnIn.of_below p.old).base k3.to_below k3.size (by omega))
          have HF := Lib.hid (duo_store (R := w.heap.size + 2) (OwnT.nil 9 p.at_ (w.heap.size + 3) (by omega)) kp.to_below (by omega) (by omega) (by omega))
          clear e0 e1 e2 e3 kp
          go_wp2_with fail
          refine bodyPost_ret (v := .tuple #[.agg #[.slice none 0 0, .slice none 0 0], .bool false]) (by simp [results, Tryd.results7, go_sem, q0, q1, g0, g1]) rfl ?_
          exact ⟨_, _, rfl, HF.out.1, HF.out.2⟩
      · have HO : Hid (mrgOk a q = false) := Lib.hid (by rw [HDEF.out]; simp [h4])
        have t2 : ((a.2.length : Int) != (q.2.length : Int)) = true := by simp; omega
        clear h1 h2 h4 HX HY b1 b2
        rw [HO.out, HNO.out HO.out]
        clear HDEF HNO
        generalize a.1.length = n at *
        generalize a.2.length = m at *
        generalize q.1.length = n2 at *
        generalize q.2.length = m2 at *
        obtain ⟨x0, x1, hK, z3, k3⟩ := three_boxes w (.slice (some ⟨b, off, none⟩) n c) (.slice B m d) (.slice (some ⟨b', off', none⟩) n2 c2) (.slice B2 m2 d2) (.slice none 0 0) (.slice none 0 0) 25
        obtain ⟨y0, y1, r0, r1, f0, f1⟩ := hK
        go_enter Tryd.func7, Tryd.ntmps7
        go_wp2_with fail
        generalize (((w.alloc (.cells #[.slice (some ⟨b, off, none⟩) n c, .slice B m d] 25)).alloc (.cells #[.slice (some ⟨b', off', none⟩) n2 c2, .slice B2 m2 d2] 25)).alloc (.cells #[.slice none 0 0, .slice none 0 0] 25)) = w3 at *
        have hz3 : w.heap.size + 3 ≤ w3.heap.size := by omega
        clear z3
        have e0 := grew_cell x0 (by omega)
        have e1 := grew_cell x1 (by omega)
        have e2 := grew_cell y0 (by omega)
        have e3 := grew_cell y1 (by omega)
        have HG1 := Lib.hid (fun p : Grew w3 => grew_bool (sGoodStripe_any _ _ a p.at_ ((HV.out.touch k3).below p.old) ((HU.out.touch k3).below p.old)))
        have HG2 := Lib.hid (fun p : Grew w3 => grew_bool (sGoodStripe_any _ _ q p.at_ ((HV2.out.touch k3).below p.old) ((HU2.out.touch k3).below p.old)))
        rw [HA.out] at HG1
        rw [HQ.out] at HG2
        have e4 := grew_cell (cell_turn k3 hcx hbl) (Nat.lt_of_lt_of_le hbl k3.size)
        have e5 := grew_cell (cell_turn k3 hcy hbl') (Nat.lt_of_lt_of_le hbl' k3.size)
        refine wp_region_grew (by kernel_rfl) (by kernel_rfl) ?_
        repeat (first | go_big_quiet_skip | quiet_step ((go_at_call 39; first | with_reducible exact HG1.out _ | exact HG2.out _)))
        refine wpQuiet_nil ?_
        rintro _ ⟨p, rfl⟩
        have hzp := p.old.size
        have q0 := grew_cell r0 (by omega) p
        have q1 := grew_cell r1 (by omega) p
        have g0 := grew_frz f0 (by omega) p
        have g1 := grew_frz f1 (by omega) p
        have kp : TurnIn 0 0 w p.at_ := TurnIn.of_below ((TurnIn.of_below p.old).base k3.to_below k3.size (by omega))
        have HF := Lib.hid (duo_store (R := w.heap.size + 2) (OwnT.nil 9 p.at_ (w.heap.size + 3) (by omega)) kp.to_below (by omega) (by omega) (by omega))
        clear e0 e1 e2 e3 kp
        go_wp2_with fail
        refine bodyPost_ret (v := .tuple #[.agg #[.slice none 0 0, .slice none 0 0], .bool false]) (by simp [results, Tryd.results7, go_sem, q0, q1, g0, g1]) rfl ?_
        exact ⟨_, _, rfl, HF.out.1, HF.out.2⟩
    · have HQ : Hid (strpOk q = false) := Lib.hid (by simpa using h2)
      have HO : Hid (mrgOk a q = false) := Lib.hid (by rw [HDEF.out, HQ.out]; simp)
      clear h1 h2 b1
      obtain ⟨A, c, hvv⟩ := hv.len
      obtain ⟨A2, c2, hvv2⟩ := hv2.len
      rw [strs_length] at hvv hvv2
      subst hvv hvv2
      obtain ⟨B, d, huu⟩ := hu.len
      obtain ⟨B2, d2, huu2⟩ := hu2.len
      rw [strs_length] at huu huu2
      subst huu huu2
      clear hv hu hv2 hu2
      rw [HO.out, HNO.out HO.out]
      clear HDEF HNO
      generalize a.1.length = n at *
      generalize a.2.length = m at *
      generalize q.1.length = n2 at *
      generalize q.2.length = m2 at *
      obtain ⟨x0, x1, hK, z3, k3⟩ := three_boxes w (.slice A n c) (.slice B m d) (.slice A2 n2 c2) (.slice B2 m2 d2) (.slice none 0 0) (.slice none 0 0) 25
      obtain ⟨y0, y1, r0, r1, f0, f1⟩ := hK
      go_enter Tryd.func7, Tryd.ntmps7
      go_wp2_with fail
      generalize (((w.alloc (.cells #[.slice A n c, .slice B m d] 25)).alloc (.cells #[.slice A2 n2 c2, .slice B2 m2 d2] 25)).alloc (.cells #[.slice none 0 0, .slice none 0 0] 25)) = w3 at *
      have hz3 : w.heap.size + 3 ≤ w3.heap.size := by omega
      clear z3
      have e0 := grew_cell x0 (by omega)
      have e1 := grew_cell x1 (by omega)
      have e2 := grew_cell y0 (by omega)
      have e3 := grew_cell y1 (by omega)
      have HG1 := Lib.hid (fun p : Grew w3 => grew_bool (sGoodStripe_any _ _ a p.at_ ((HV.out.touch k3).below p.old) ((HU.out.touch k3).below p.old)))
      have HG2 := Lib.hid (fun p : Grew w3 => grew_bool (sGoodStripe_any _ _ q p.at_ ((HV2.out.touch k3).below p.old) ((HU2.out.touch k3).below p.old)))
      rw [HA.out] at HG1
      rw [HQ.out] at HG2
      refine wp_region_grew (by kernel_rfl) (by kernel_rfl) ?_
      repeat (first | go_big_quiet_skip | quiet_step ((go_at_call 39; first | with_reducible exact HG1.out _ | exact HG2.out _)))
      refine wpQuiet_nil ?_
      rintro _ ⟨p, rfl⟩
      have hzp := p.old.size
      have q0 := grew_cell r0 (by omega) p
      have q1 := grew_cell r1 (by omega) p
      have g0 := grew_frz f0 (by omega) p
      have g1 := grew_frz f1 (by omega) p
      have kp : TurnIn 0 0 w p.at_ := TurnIn.of_below ((TurnIn.of_below p.old).base k3.to_below k3.size (by omega))
      have HF := Lib.hid (duo_store (R := w.heap.size + 2) (OwnT.nil 9 p.at_ (w.heap.size + 3) (by omega)) kp.to_below (by omega) (by omega) (by omega))
      clear e0 e1 e2 e3 kp
      go_wp2_with fail
      refine bodyPost_ret (v := .tuple #[.agg #[.slice none 0 0, .slice none 0 0], .bool false]) (by simp [results, Tryd.results7, go_sem, q0, q1, g0, g1]) rfl ?_
      exact ⟨_, _, rfl, HF.out.1, HF.out.2⟩
  · have HA : Hid (strpOk a = false) := Lib.hid (by simpa using h1)
    have HO : Hid (mrgOk a q = false) := Lib.hid (by rw [HDEF.out, HA.out]; simp)
    clear h1
    obtain ⟨A, c, hvv⟩ := hv.len
    obtain ⟨A2, c2, hvv2⟩ := hv2.len
    rw [strs_length] at hvv hvv2
    subst hvv hvv2
    obtain ⟨B, d, huu⟩ := hu.len
    obtain ⟨B2, d2, huu2⟩ := hu2.len
    rw [strs_length] at huu huu2
    subst huu huu2
    clear hv hu hv2 hu2
    rw [HO.out, HNO.out HO.out]
    clear HDEF HNO
    generalize a.1.length = n at *
    generalize a.2.length = m at *
    generalize q.1.length = n2 at *
    generalize q.2.length = m2 at *
    obtain ⟨x0, x1, hK, z3, k3⟩ := three_boxes w (.slice A n c) (.slice B m d) (.slice A2 n2 c2) (.slice B2 m2 d2) (.slice none 0 0) (.slice none 0 0) 25
    obtain ⟨y0, y1, r0, r1, f0, f1⟩ := hK
    go_enter Tryd.func7, Tryd.ntmps7
    go_wp2_with fail
    generalize (((w.alloc (.cells #[.slice A n c, .slice B m d] 25)).alloc (.cells #[.slice A2 n2 c2, .slice B2 m2 d2] 25)).alloc (.cells #[.slice none 0 0, .slice none 0 0] 25)) = w3 at *
    have hz3 : w.heap.size + 3 ≤ w3.heap.size := by omega
    clear z3
    have e0 := grew_cell x0 (by omega)
    have e1 := grew_cell x1 (by omega)
    have e2 := grew_cell y0 (by omega)
    have e3 := grew_cell y1 (by omega)
    have HG1 := Lib.hid (fun p : Grew w3 => grew_bool (sGoodStripe_any _ _ a p.at_ ((HV.out.touch k3).below p.old) ((HU.out.touch k3).below p.old)))
    have HG2 := Lib.hid (fun p : Grew w3 => grew_bool (sGoodStripe_any _ _ q p.at_ ((HV2.out.touch k3).below p.old) ((HU2.out.touch k3).below p.old)))
    rw [HA.out] at HG1
    refine wp_region_grew (by kernel_rfl) (by kernel_rfl) ?_
    repeat (first | go_big_quiet_skip | quiet_step ((go_at_call 39; first | with_reducible exact HG1.out _ | exact HG2.out _)))
    refine wpQuiet_nil ?_
    rintro _ ⟨p, rfl⟩
    have hzp := p.old.size
    have q0 := grew_cell r0 (by omega) p
    have q1 := grew_cell r1 (by omega) p
    have g0 := grew_frz f0 (by omega) p
    have g1 := grew_frz f1 (by omega) p
    have kp : TurnIn 0 0 w p.at_ := TurnIn.of_below ((TurnIn.of_below p.old).base k3.to_below k3.size (by omega))
    have HF := Lib.hid (duo_store (R := w.heap.size + 2) (OwnT.nil 9 p.at_ (w.heap.size + 3) (by omega)) kp.to_below (by omega) (by omega) (by omega))
    clear e0 e1 e2 e3 kp
    go_wp2_with fail
    refine bodyPost_ret (v := .tuple #[.agg #[.slice none 0 0, .slice none 0 0], .bool false]) (by simp [results, Tryd.results7, go_sem, q0, q1, g0, g1]) rfl ?_
    exact ⟨_, _, rfl, HF.out.1, HF.out.2⟩

end Go.Proofs.YtjgmegfbfjmnfaaDoor
