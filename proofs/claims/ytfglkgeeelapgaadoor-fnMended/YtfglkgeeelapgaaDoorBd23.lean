/- Joined texts: Chg2, Cur7, CurS. -/
import Derived.Test.YtfglkgeeelapgaaDoorBd22
import Derived.Test.YtfglkgeeelapgaaDoorBd06
import Derived.Test.YtfglkgeeelapgaaDoorBd19
import Derived.Test.YtfglkgeeelapgaaDoorBd21
set_option linter.unusedSimpArgs false
set_option linter.unusedVariables false
/- ChangeStripe, the model's. -/
namespace G294
open Go Go.RowKit
/-- the cells of a result's box, still empty, may be written -/
structure KeptR (W : World) (R : Nat) : Prop where
  r0 : W.cell? ⟨R, 0, none⟩ = some (.slice none 0 0)
  r1 : W.cell? ⟨R, 1, none⟩ = some (.slice none 0 0)
  f0 : W.frozen? ⟨R, 0, none⟩ = false
  f1 : W.frozen? ⟨R, 1, none⟩ = false
theorem KeptR.turn {W W' : World} {R : Nat} (h : KeptR W R) (t : TurnIn 0 0 W W') (hR : R < W.heap.size) : KeptR W' R := ⟨cell_turn t h.r0 hR, cell_turn t h.r1 hR, frozen_turn t h.f0 hR, frozen_turn t h.f1 hR⟩
theorem KeptR.set {W : World} {R g o : Nat} {z : Value} (h : KeptR W R) (hn : g ≠ R) : KeptR (W.setCell ⟨g, o, none⟩ z) R := ⟨(cell_set_other W _ _ _ hn).trans h.r0, (cell_set_other W _ _ _ hn).trans h.r1, (frozen_set_other W _ _ _ hn).trans h.f0, (frozen_set_other W _ _ _ hn).trans h.f1⟩
end G294
namespace Go.Proofs.YtfglkgeeelapgaaDoor
open Go.RowKit G294

set_option maxRecDepth 100000 in
set_option maxHeartbeats 8000000 in
theorem sChangeStripe_own (v u : Value) (s : Strp) (i : Int) (t : List UInt8) (w : World) (hv : Seen w v (strs s.1)) (hu : Seen w u (strs s.2)) (htl : t.length ≤ 1048576) :
    Calls Tryd.prog 26 #[.agg #[v, u], .int .i64 i, .string (str t)] w (RetTOk 9 w (chgR s i t) (chgOk s i t)) := by
  have HV0 := Lib.hid hv
  have HU0 := Lib.hid hu
  obtain ⟨A, c, hvv⟩ := hv.len
  obtain ⟨B, d, huu⟩ := hu.len
  rw [strs_length] at hvv huu
  subst hvv huu
  have a1 := turn_alloc w (.cells #[.slice A s.1.length c, .slice B s.2.length d] 25)
  have a2 := turn_alloc (w.alloc (.cells #[.slice A s.1.length c, .slice B s.2.length d] 25)) (.cells #[.slice none 0 0, .slice none 0 0] 25)
  have z2 : ((w.alloc (.cells #[.slice A s.1.length c, .slice B s.2.length d] 25)).alloc (.cells #[.slice none 0 0, .slice none 0 0] 25)).heap.size = w.heap.size + 2 := by simp
  have c0 := cell_turn a2 (alloc_duo0 w (.slice A s.1.length c) (.slice B s.2.length d) 25) (alloc_lt _ _)
  have c1 := cell_turn a2 (alloc_duo1 w (.slice A s.1.length c) (.slice B s.2.length d) 25) (alloc_lt _ _)
  have fx0 := frozen_turn a2 (alloc_frz w #[.slice A s.1.length c, .slice B s.2.length d] 25 0) (alloc_lt _ _)
  have fx1 := frozen_turn a2 (alloc_frz w #[.slice A s.1.length c, .slice B s.2.length d] 25 1) (alloc_lt _ _)
  have r0 := alloc_duo0 (w.alloc (.cells #[.slice A s.1.length c, .slice B s.2.length d] 25)) (.slice none 0 0) (.slice none 0 0) 25
  have r1 := alloc_duo1 (w.alloc (.cells #[.slice A s.1.length c, .slice B s.2.length d] 25)) (.slice none 0 0) (.slice none 0 0) 25
  have f0 := alloc_frz (w.alloc (.cells #[.slice A s.1.length c, .slice B s.2.length d] 25)) #[.slice none 0 0, .slice none 0 0] 25 0
  have f1 := alloc_frz (w.alloc (.cells #[.slice A s.1.length c, .slice B s.2.length d] 25)) #[.slice none 0 0, .slice none 0 0] 25 1
  rw [World.size_alloc] at r0 r1 f0 f1
  have k2 := turn_trans a1 a2 (by omega)
  have HG := Lib.hid (sGoodStripe_any _ _ s _ (hv.touch k2) (hu.touch k2))
  have HK2 := Lib.hid k2
  have HDEF : Hid (chgOk s i t = (strpOk s && (decide (0 ≤ i ∧ i < (s.1.length : Int)) && decide (t.length = firstLen s)))) := Lib.hid rfl
  have HNO : Hid (chgOk s i t = false → chgR s i t = ([], [])) := Lib.hid chgR_no
  have hsz2 : w.heap.size + 2 ≤ ((w.alloc (.cells #[.slice A s.1.length c, .slice B s.2.length d] 25)).alloc (.cells #[.slice none 0 0, .slice none 0 0] 25)).heap.size := by omega
  clear hv hu a1 a2 z2 k2
  by_cases h1 : strpOk s = true
  · have H1 := Lib.hid h1
    have b1 := strpOk_b h1
    rw [H1.out] at HG
    have hw1 : IntKind.i64.wrap ((s.1.length : Int) - 1) = (s.1.length : Int) - 1 := IntWalk.i64_in _ (by omega)
    have HINA : Hid (∀ W, Calls Tryd.prog 69 #[.int .i64 i, .int .i64 0, .int .i64 ((s.1.length : Int) - 1)] W fun e w' => e = .returned (.bool (decide (0 ≤ i ∧ i ≤ (s.1.length : Int) - 1))) ∧ W = w') := Lib.hid (fun W => l1In_any i 0 ((s.1.length : Int) - 1) W)
    by_cases hi : 0 ≤ i ∧ i < (s.1.length : Int)
    · have HIN : Hid (∀ W, Calls Tryd.prog 69 #[.int .i64 i, .int .i64 0, .int .i64 ((s.1.length : Int) - 1)] W fun e w' => e = .returned (.bool true) ∧ W = w') := Lib.hid (fun W => (show decide (0 ≤ i ∧ i ≤ (s.1.length : Int) - 1) = true by simp; omega) ▸ HINA.out W)
      obtain ⟨j, rfl⟩ := Int.eq_ofNat_of_zero_le hi.1
      have hj : j < s.1.length := by omega
      obtain ⟨b, off, cc, hvv, hbl, hlm, hcx0⟩ := seen_at HV0.out (show 0 < s.1.length by omega)
      rw [Nat.add_zero] at hcx0
      obtain ⟨rfl, rfl⟩ : A = some ⟨b, off, none⟩ ∧ c = cc := by simpa using hvv
      have hst := str_size t
      have hs0 := str_size (s.1.getD 0 [])
      have HL0 : Hid ((s.1.getD 0 []).length = firstLen s) := Lib.hid rfl
      rw [HL0.out] at hs0
      have h40 := strp_len40 h1
      have hpos : 0 < s.1.length := by omega
      obtain ⟨x0, hx0⟩ : ∃ x, x = s.1.getD 0 [] := ⟨_, rfl⟩
      rw [← hx0] at hcx0 hs0
      clear hvv hi hx0 HINA HL0
      by_cases hl : t.length = firstLen s
      · have HO : Hid (chgOk s j t = true) := Lib.hid (by rw [HDEF.out, h1]; simp [hl, hj])
        obtain ⟨xj, hxj⟩ : ∃ x, x = s.1.getD j [] := ⟨_, rfl⟩
        have HXJ := Lib.hid hxj
        obtain ⟨df, hdf⟩ : ∃ x, x = plusL xj 1 t := ⟨_, rfl⟩
        have HDF := Lib.hid hdf
        obtain ⟨FF, hFF⟩ : ∃ F : Nat → List UInt8, F = fun k => plusL (s.2.getD k []) (prmF k j) df := ⟨_, rfl⟩
        have HFF := Lib.hid hFF
        have HR : Hid (chgR s j t = (s.1.set j t, textsF s.2.length FF)) := Lib.hid (by rw [chgR_yes HO.out, hFF, hdf, hxj]; rfl)
        have HXL : Hid (xj.length = t.length) := Lib.hid (by rw [hxj, strp_len1 h1 hj, hl])
        have HDL : Hid (df.length = t.length) := Lib.hid (by rw [hdf, plusL_length, HXL.out])
        have HLEN : Hid (∀ k, k < s.2.length → (s.2.getD k []).length = t.length) := Lib.hid (fun k hk => by rw [strp_len2 h1 hk, hl])
        rw [hl] at hst
        rw [HO.out, HR.out]
        have ht40 : t.length ≤ 40 := by omega
        have hne : ((firstLen s : Int) != (firstLen s : Int)) = false := by simp
        obtain ⟨n, hn⟩ : ∃ n, n = s.1.length := ⟨_, rfl⟩
        obtain ⟨m, hm⟩ : ∃ m, m = s.2.length := ⟨_, rfl⟩
        have HN := Lib.hid hn
        have HM := Lib.hid hm
        have bn : 1 ≤ n ∧ n ≤ 16 := by omega
        have bm : 1 ≤ m ∧ m ≤ 4 := by omega
        have hjn : j < n := by omega
        have hji : (j : Int) < (n : Int) := by omega
        rw [← hn] at c0 c1 fx0 fx1 r0 r1 f0 f1 hsz2 HG HK2 HV0 HIN hw1 hlm hpos ⊢
        rw [← hm] at c0 c1 fx0 fx1 r0 r1 f0 f1 hsz2 HG HK2 HU0 ⊢
        generalize firstLen s = lf at *
        clear h1 b1 hl hj HDEF HNO hn hm hxj hdf hFF
        go_enter Tryd.func26, Tryd.ntmps26
        go_wp2_with fail
        refine HG.out.mono ?_
        rintro e w4 ⟨rfl, k4⟩
        generalize ((w.alloc (.cells #[.slice (some ⟨b, off, none⟩) n c, .slice B m d] 25)).alloc (.cells #[.slice none 0 0, .slice none 0 0] 25)) = w2 at *
        have s4 := k4.size
        replace c0 := cell_turn k4 c0 (by omega)
        replace c1 := cell_turn k4 c1 (by omega)
        replace fx0 := frozen_turn k4 fx0 (by omega)
        replace fx1 := frozen_turn k4 fx1 (by omega)
        have hR4 : KeptR w4 (w.heap.size + 1) := ⟨cell_turn k4 r0 (by omega), cell_turn k4 r1 (by omega), frozen_turn k4 f0 (by omega), frozen_turn k4 f1 (by omega)⟩
        have k04 := turn_trans HK2.out k4 (by omega)
        replace hcx0 := cell_turn k04 hcx0 hbl
        have hz4 : w.heap.size + 2 ≤ w4.heap.size := by omega
        have HL := Lib.hid (l6Own_own _ _ s w4 (HV0.out.touch k04) (HU0.out.touch k04) (by rw [← HN.out]; omega) (by rw [← HM.out]; omega))
        clear HG r0 r1 f0 f1 k4 s4
        go_wp2_with fail
        refine (HIN.out _).mono ?_
        rintro e w' ⟨rfl, rfl⟩
        go_wp2_with fail
        refine HL.out.mono ?_
        rintro e w5 ⟨d1, p1, rfl, hO, k5⟩
        obtain ⟨mid, hlmm, hmh, oD, oP⟩ := hO
        obtain ⟨gd, cp1, rfl, hg1a, hg1b, hcp1, hcm1', _, _⟩ := oD.shape (by rw [← HN.out]; exact bn.1)
        obtain ⟨gp, cp2, rfl, hg2a, hg2b, hcp2, hcm2', _, _⟩ := oP.shape (by rw [← HM.out]; exact bm.1)
        rw [← HN.out] at oD hcp1 ⊢
        rw [← HM.out] at oP hcp2 ⊢
        unfold maxLen at hcm1' hcm2'
        have s5 := k5.size
        replace c0 := cell_turn k5 c0 (by omega)
        replace c1 := cell_turn k5 c1 (by omega)
        replace fx0 := frozen_turn k5 fx0 (by omega)
        replace fx1 := frozen_turn k5 fx1 (by omega)
        have hSB := SBox.start (w := w) (B := w.heap.size) oD oP c0 c1 (by omega) hlmm hmh (k5.base k04.to_below (by omega) (by omega)) (Nat.le_refl _)
        have hR5 := ((hR4.turn k5 (by omega)).set (g := w.heap.size) (o := 0) (z := .slice (some ⟨gd, 0, none⟩) n cp1) (by omega)).set (g := w.heap.size) (o := 1) (z := .slice (some ⟨gp, 0, none⟩) m cp2) (by omega)
        have hc6 := hSB.c0
        have hc6' := hSB.c1
        obtain ⟨hcj, hfj⟩ := hSB.data.atK HN.out.symm hjn
        rw [← HXJ.out] at hcj
        have hs6 : w5.heap.size ≤ ((w5.setCell ⟨w.heap.size, 0, none⟩ (.slice (some ⟨gd, 0, none⟩) n cp1)).setCell ⟨w.heap.size, 1, none⟩ (.slice (some ⟨gp, 0, none⟩) m cp2)).heap.size := by simp
        have hs6' : ((w5.setCell ⟨w.heap.size, 0, none⟩ (.slice (some ⟨gd, 0, none⟩) n cp1)).setCell ⟨w.heap.size, 1, none⟩ (.slice (some ⟨gp, 0, none⟩) m cp2)).heap.size ≤ w5.heap.size := by simp
        have HSB := Lib.hid hSB
        have HR5 := Lib.hid hR5
        have hz5 : w.heap.size + 2 ≤ w5.heap.size := by omega
        clear hSB hR5 hR4 oD oP k04 k5 HL HIN hcx0
        go_wp2_with fail
        generalize ((w5.setCell ⟨w.heap.size, 0, none⟩ (.slice (some ⟨gd, 0, none⟩) n cp1)).setCell ⟨w.heap.size, 1, none⟩ (.slice (some ⟨gp, 0, none⟩) m cp2)) = w5b at *
        clear c0 c1 fx0 fx1
        have HLP := Lib.hid (l6Plus_own xj t 1 w5b HXL.out.symm (by rw [HXL.out]; omega))
        rw [← HDF.out] at HLP
        refine HLP.out.mono ?_
        rintro e w5c ⟨rfl, k5c⟩
        have s5c := k5c.size
        have HSB1 := Lib.hid (HSB.out.turn k5c (by omega))
        have HR51 := Lib.hid (HR5.out.turn k5c (by omega))
        have hb0 := HSB1.out.c0
        have hb1 := HSB1.out.c1
        clear HSB HR5 hc6 hc6' hcj hfj
        go_wp2_with fail
        refine (l6Matrix_own m n _ bm.1 bn.1 (by omega) bn.2).mono ?_
        rintro e w6 ⟨v6, vs6, rfl, hM6, k6⟩
        obtain ⟨bb, cpm, rfl, hbb1, hbb2, hbb3, hbb4⟩ := hM6.sliceF bm.1
        have s6 := k6.size
        have a7 := turn_alloc w6 (.cells #[.slice (some ⟨bb, 0, none⟩) m cpm] 39)
        have z7 := World.size_alloc w6 (.cells #[.slice (some ⟨bb, 0, none⟩) m cpm] 39)
        have cM := alloc_cell w6 (.slice (some ⟨bb, 0, none⟩) m cpm) 39
        have k67 := turn_trans k6 a7 (by omega)
        have HSB2 := Lib.hid (HSB1.out.turn k67 (by omega))
        rw [← halfT_zero s.2 FF] at HSB2
        have HR52 := Lib.hid (HR51.out.turn k67 (by omega))
        have HMM := Lib.hid (hM6.keep a7 (by omega))
        have hb0 := HSB2.out.c0
        have hb1 := HSB2.out.c1
        have hsz7 : w6.heap.size + 1 ≤ (w6.alloc (.cells #[.slice (some ⟨bb, 0, none⟩) m cpm] 39)).heap.size := by omega
        have h57 : w5.heap.size ≤ w6.heap.size := by omega
        unfold maxLen at hbb4
        clear HSB1 HR51 hM6 k67 a7 z7
        go_wp2_with fail
        generalize (w6.alloc (.cells #[.slice (some ⟨bb, 0, none⟩) m cpm] 39)) = w7 at *
        obtain ⟨BM, hBM⟩ : ∃ x, x = w6.heap.size := ⟨_, rfl⟩
        rw [← hBM] at cM ⊢
        have HBM := Lib.hid hBM
        have hBM1 : w5.heap.size ≤ BM := by omega
        have hBM2 : BM ≤ w6.heap.size := by omega
        have hBM3 : w5c.heap.size ≤ BM := by omega
        clear hBM
        go_loopw [53] (fun i wr => ∃ k : Nat, k ≤ m ∧ i = .int .i64 k ∧ w6.heap.size + 1 ≤ wr.heap.size ∧ wr.cell? ⟨BM, 0, none⟩ = some (.slice (some ⟨bb, 0, none⟩) m cpm) ∧ Hid (SBox 9 w wr w.heap.size w4.heap.size mid w5.heap.size (.slice (some ⟨gd, 0, none⟩) n cp1) (.slice (some ⟨gp, 0, none⟩) m cp2) s.1 (halfT s.2 FF k)) ∧ Hid (OwnM 5 22 wr w5c.heap.size w6.heap.size (.slice (some ⟨bb, 0, none⟩) m cpm) (mkM m n prmF) vs6) ∧ Hid (KeptR wr (w.heap.size + 1))) (fun i _ => m - (intOf i).toNat)
        case atStart => exact ⟨0, Nat.zero_le _, rfl, hsz7, cM, HSB2, HMM, HR52⟩
        case round =>
          obtain ⟨k, hk, rfl, hszr, hcm0, HSR, HMR, HRR⟩ := hrel
          clear HSB2 HMM HR52 hb0 hb1 cM hsz7
          by_cases hlt : k < m
          · have hki : (k : Int) < (m : Int) := by omega
            have hbx := HSR.out.c1
            have hka : k < s.2.length := by rw [← HM.out]; exact hlt
            obtain ⟨hcx, hfr⟩ := HSR.out.par.atK (by rw [halfT_length, ← HM.out]) hlt
            rw [halfT_get _ _ _ hka] at hcx
            obtain ⟨br, cpr, hur, e1, e2, e3, e4, e5, hfz, hcellr⟩ := HMR.out.rowF k hlt bn.1
            have hcm1 := HMR.out.cellAt hur
            have hcm2 := hcellr j hjn
            have HLX : Hid (df.length = (s.2.getD k []).length ∧ (s.2.getD k []).length ≤ 1000) := Lib.hid (by rw [HDL.out, HLEN.out k hka]; omega)
            have HFX : Hid (FF k = plusL (s.2.getD k []) (prmF k j) df) := Lib.hid (by rw [HFF.out])
            have HNX := Lib.hid (halfT_next s.2 FF k)
            generalize s.2.getD k [] = x at *
            have hgg := (HSR.out.par.1.lt gp rfl).1
            have hgh := HSR.out.par.2.2 gp rfl
            have h1b := HSR.out.hB
            have h2b := HSR.out.hlm
            have h3b := HSR.out.hmh
            have hbbr := HMR.out.out bb rfl
            have hbb0 := (HMR.out.row.lt bb rfl).1
            unfold maxLen at e5
            clear hcellr hfz e3
            go_wp2_with fail
            have hS : (fun W : World => W.cell? ⟨w.heap.size, 1, none⟩ = some (.slice (some ⟨gp, 0, none⟩) m cp2) ∧ W.cell? ⟨gp, k, none⟩ = some (.string (str x)) ∧ W.cell? ⟨BM, 0, none⟩ = some (.slice (some ⟨bb, 0, none⟩) m cpm) ∧ W.cell? ⟨bb, k, none⟩ = some (.slice (some ⟨br, 0, none⟩) n cpr) ∧ W.cell? ⟨br, j, none⟩ = some (.int .u8 ((prmF k j).toNat : Int))) wr.drew := ⟨hbx, hcx, hcm0, hcm1, hcm2⟩
            refine wp_region_tail (fun W : World => W.cell? ⟨w.heap.size, 1, none⟩ = some (.slice (some ⟨gp, 0, none⟩) m cp2) ∧ W.cell? ⟨gp, k, none⟩ = some (.string (str x)) ∧ W.cell? ⟨BM, 0, none⟩ = some (.slice (some ⟨bb, 0, none⟩) m cpm) ∧ W.cell? ⟨bb, k, none⟩ = some (.slice (some ⟨br, 0, none⟩) n cpr) ∧ W.cell? ⟨br, j, none⟩ = some (.int .u8 ((prmF k j).toNat : Int))) 19 (by kernel_rfl) ?_
            refine wpAnyT_take (i := 0) (oi := _) (v := ?v0) rfl (by kernel_rfl) (by kernel_rfl) (by kernel_rfl) (by kernel_rfl) (fun _ _ _ h => h) (Or.inl ⟨by rfl, ?hy0⟩) hS ?rest0
            case hy0 => (intro W hW; obtain ⟨e1, e2, e3, e4, e5⟩ := hW; go_simp; try with_reducible rfl)
            simp only [Act.put, List.setIfInBounds_toArray, List.set_cons_zero, List.set_cons_succ]
            refine wpAnyT_take (i := 1) (oi := _) (v := ?v1) rfl (by kernel_rfl) (by kernel_rfl) (by kernel_rfl) (by kernel_rfl) (fun _ _ _ h => h) (Or.inl ⟨by rfl, ?hy1⟩) hS ?rest1
            case hy1 => (intro W hW; obtain ⟨e1, e2, e3, e4, e5⟩ := hW; go_simp; try with_reducible rfl)
            simp only [Act.put, List.setIfInBounds_toArray, List.set_cons_zero, List.set_cons_succ]
            refine wpAnyT_take (i := 2) (oi := _) (v := ?v2) rfl (by kernel_rfl) (by kernel_rfl) (by kernel_rfl) (by kernel_rfl) (fun _ _ _ h => h) (Or.inl ⟨by rfl, ?hy2⟩) hS ?rest2
            case hy2 => (intro W hW; obtain ⟨e1, e2, e3, e4, e5⟩ := hW; go_simp; try with_reducible rfl)
            simp only [Act.put, List.setIfInBounds_toArray, List.set_cons_zero, List.set_cons_succ]
            refine wpAnyT_take (i := 3) (oi := _) (v := ?v3) rfl (by kernel_rfl) (by kernel_rfl) (by kernel_rfl) (by kernel_rfl) (fun _ _ _ h => h) (Or.inl ⟨by rfl, ?hy3⟩) hS ?rest3
            case hy3 => (intro W hW; obtain ⟨e1, e2, e3, e4, e5⟩ := hW; go_simp; try with_reducible rfl)
            simp only [Act.put, List.setIfInBounds_toArray, List.set_cons_zero, List.set_cons_succ]
            refine wpAnyT_take (i := 4) (oi := _) (v := ?v4) rfl (by kernel_rfl) (by kernel_rfl) (by kernel_rfl) (by kernel_rfl) (fun _ _ _ h => h) (Or.inl ⟨by rfl, ?hy4⟩) hS ?rest4
            case hy4 => (intro W hW; obtain ⟨e1, e2, e3, e4, e5⟩ := hW; go_simp; try with_reducible rfl)
            simp only [Act.put, List.setIfInBounds_toArray, List.set_cons_zero, List.set_cons_succ]
            refine wpAnyT_take (i := 5) (oi := _) (v := ?v5) rfl (by kernel_rfl) (by kernel_rfl) (by kernel_rfl) (by kernel_rfl) (fun _ _ _ h => h) (Or.inl ⟨by rfl, ?hy5⟩) hS ?rest5
            case hy5 => (intro W hW; obtain ⟨e1, e2, e3, e4, e5⟩ := hW; go_simp; try with_reducible rfl)
            simp only [Act.put, List.setIfInBounds_toArray, List.set_cons_zero, List.set_cons_succ]
            refine wpAnyT_take (i := 6) (oi := _) (v := ?v6) rfl (by kernel_rfl) (by kernel_rfl) (by kernel_rfl) (by kernel_rfl) (fun _ _ _ h => h) (Or.inl ⟨by rfl, ?hy6⟩) hS ?rest6
            case hy6 => (intro W hW; obtain ⟨e1, e2, e3, e4, e5⟩ := hW; go_simp; try with_reducible rfl)
            simp only [Act.put, List.setIfInBounds_toArray, List.set_cons_zero, List.set_cons_succ]
            refine wpAnyT_take (i := 7) (oi := _) (v := ?v7) rfl (by kernel_rfl) (by kernel_rfl) (by kernel_rfl) (by kernel_rfl) (fun _ _ _ h => h) (Or.inl ⟨by rfl, ?hy7⟩) hS ?rest7
            case hy7 => (intro W hW; obtain ⟨e1, e2, e3, e4, e5⟩ := hW; go_simp; try with_reducible rfl)
            simp only [Act.put, List.setIfInBounds_toArray, List.set_cons_zero, List.set_cons_succ]
            refine wpAnyT_take (i := 8) (oi := _) (v := ?v8) rfl (by kernel_rfl) (by kernel_rfl) (by kernel_rfl) (by kernel_rfl) (fun _ _ _ h => h) (Or.inl ⟨by rfl, ?hy8⟩) hS ?rest8
            case hy8 => (intro W hW; obtain ⟨e1, e2, e3, e4, e5⟩ := hW; go_simp; try with_reducible rfl)
            simp only [Act.put, List.setIfInBounds_toArray, List.set_cons_zero, List.set_cons_succ]
            refine wpAnyT_take (i := 9) (oi := _) (v := ?v9) rfl (by kernel_rfl) (by kernel_rfl) (by kernel_rfl) (by kernel_rfl) (fun _ _ _ h => h) (Or.inl ⟨by rfl, ?hy9⟩) hS ?rest9
            case hy9 => (intro W hW; obtain ⟨e1, e2, e3, e4, e5⟩ := hW; go_simp; try with_reducible rfl)
            simp only [Act.put, List.setIfInBounds_toArray, List.set_cons_zero, List.set_cons_succ]
            refine wpAnyT_take (i := 10) (oi := _) (v := ?v10) rfl (by kernel_rfl) (by kernel_rfl) (by kernel_rfl) (by kernel_rfl) (fun _ _ _ h => h) (Or.inl ⟨by rfl, ?hy10⟩) hS ?rest10
            case hy10 => (intro W hW; obtain ⟨e1, e2, e3, e4, e5⟩ := hW; go_simp; try with_reducible rfl)
            simp only [Act.put, List.setIfInBounds_toArray, List.set_cons_zero, List.set_cons_succ]
            refine wpAnyT_take (i := 11) (oi := _) (v := ?v11) rfl (by kernel_rfl) (by kernel_rfl) (by kernel_rfl) (by kernel_rfl) (fun _ _ _ h => h) (Or.inl ⟨by rfl, ?hy11⟩) hS ?rest11
            case hy11 => (intro W hW; obtain ⟨e1, e2, e3, e4, e5⟩ := hW; go_simp; try with_reducible rfl)
            simp only [Act.put, List.setIfInBounds_toArray, List.set_cons_zero, List.set_cons_succ]
            refine wpAnyT_take (i := 12) (oi := _) (v := ?v12) rfl (by kernel_rfl) (by kernel_rfl) (by kernel_rfl) (by kernel_rfl) (fun _ _ _ h => h) (Or.inl ⟨by rfl, ?hy12⟩) hS ?rest12
            case hy12 => (intro W hW; obtain ⟨e1, e2, e3, e4, e5⟩ := hW; go_simp; try with_reducible rfl)
            simp only [Act.put, List.setIfInBounds_toArray, List.set_cons_zero, List.set_cons_succ]
            refine wpAnyT_take (i := 13) (oi := _) (v := ?v13) rfl (by kernel_rfl) (by kernel_rfl) (by kernel_rfl) (by kernel_rfl) (fun _ _ _ h => h) (Or.inl ⟨by rfl, ?hy13⟩) hS ?rest13
            case hy13 => (intro W hW; obtain ⟨e1, e2, e3, e4, e5⟩ := hW; go_simp; try with_reducible rfl)
            simp only [Act.put, List.setIfInBounds_toArray, List.set_cons_zero, List.set_cons_succ]
            refine wpAnyT_take (i := 14) (oi := _) (v := ?v14) rfl (by kernel_rfl) (by kernel_rfl) (by kernel_rfl) (by kernel_rfl) (fun _ _ _ h => h) (Or.inl ⟨by rfl, ?hy14⟩) hS ?rest14
            case hy14 => (intro W hW; obtain ⟨e1, e2, e3, e4, e5⟩ := hW; go_simp; try with_reducible rfl)
            simp only [Act.put, List.setIfInBounds_toArray, List.set_cons_zero, List.set_cons_succ]
            refine wpAnyT_take (i := 15) (oi := _) (v := ?v15) rfl (by kernel_rfl) (by kernel_rfl) (by kernel_rfl) (by kernel_rfl) (fun _ _ _ h => h) (Or.inl ⟨by rfl, ?hy15⟩) hS ?rest15
            case hy15 => (intro W hW; obtain ⟨e1, e2, e3, e4, e5⟩ := hW; go_simp; try with_reducible rfl)
            simp only [Act.put, List.setIfInBounds_toArray, List.set_cons_zero, List.set_cons_succ]
            refine wpAnyT_take (i := 16) (oi := _) (v := ?v16) rfl (by kernel_rfl) (by kernel_rfl) (by kernel_rfl) (by kernel_rfl) (fun _ _ _ h => h) (Or.inl ⟨by rfl, ?hy16⟩) hS ?rest16
            case hy16 => (intro W hW; obtain ⟨e1, e2, e3, e4, e5⟩ := hW; go_simp; try with_reducible rfl)
            simp only [Act.put, List.setIfInBounds_toArray, List.set_cons_zero, List.set_cons_succ]
            refine wpAnyT_one (i := 17) (o := _) rfl (by kernel_rfl) (fun K hK => ?_)
            go_simp
            refine (l6Plus_own x df (prmF k j) _ HLX.out.1 HLX.out.2).mono ?_
            rintro e w7 ⟨rfl, k7'⟩
            have k7 := undrew k7'
            have s7 := k7.size
            have t0 := cell_turn k7 hbx (by omega)
            have t1 := cell_turn k7 hcx (by omega)
            have t2 := cell_turn k7 hcm0 (by omega)
            have t3 := cell_turn k7 hcm1 (by omega)
            have t4 := cell_turn k7 hcm2 (by omega)
            have t5 := frozen_turn k7 hfr (by omega)
            refine hK.out _ _ (fun _ => ⟨t0, t1, t2, t3, t4⟩) ?_
            clear hK K hS
            try simp only [Act.put, List.setIfInBounds_toArray, List.set_cons_zero, List.set_cons_succ]
            refine wpAnyT_one (i := 18) (o := _) rfl (by kernel_rfl) (fun K hK => ?_)
            go_simp
            refine hK.out _ _ (fun _ => ⟨t0, t1, t2, t3, t4⟩) ?_
            clear hK K
            try simp only [Act.put, List.setIfInBounds_toArray, List.set_cons_zero, List.set_cons_succ]
            refine wpAnyT_one (i := 19) (o := _) rfl (by kernel_rfl) (fun K hK => ?_)
            go_simp
            refine hK.out _ _ (fun h => absurd rfl h) ?_
            clear hK K
            try simp only [Act.put, List.setIfInBounds_toArray, List.set_cons_zero, List.set_cons_succ]
            refine wpAnyT_done (by kernel_rfl) ?_ _
            have HS8 : Hid (SBox 9 w (w7.setCell ⟨gp, k, none⟩ (.string (str (plusL x (prmF k j) df)))) w.heap.size w4.heap.size mid w5.heap.size (.slice (some ⟨gd, 0, none⟩) n cp1) (.slice (some ⟨gp, 0, none⟩) m cp2) s.1 (halfT s.2 FF (k + 1))) := Lib.hid ((HSR.out.turn k7 (by omega)).storeP (by rw [halfT_length, ← HM.out]) (by rw [← HFX.out]; exact HNX.out) (by omega))
            have HM8 := Lib.hid (HMR.out.keep k7 (by omega))
            have HM9 := Lib.hid (HM8.out.keep (turn_setCell w7 gp k (.string (str (plusL x (prmF k j) df)))) (by omega))
            have hc8 := (cell_set_other w7 (B := gp) (B' := BM) k 0 (.string (str (plusL x (prmF k j) df))) (by omega)).trans t2
            have HR8 : Hid (KeptR (w7.setCell ⟨gp, k, none⟩ (.string (str (plusL x (prmF k j) df)))) (w.heap.size + 1)) := Lib.hid ((HRR.out.turn k7 (by omega)).set (by omega))
            have hs8 : w6.heap.size + 1 ≤ (w7.setCell ⟨gp, k, none⟩ (.string (str (plusL x (prmF k j) df)))).heap.size := by have e : (w7.setCell ⟨gp, k, none⟩ (.string (str (plusL x (prmF k j) df)))).heap.size = w7.heap.size := (by simp); omega
            clear t0 t1 t2 t3 t4 t5 k7 k7' hcx hfr hbx hcm0 hcm1 hcm2 HM8
            go_wp2_with fail
            go_roundw
            case rel => exact ⟨k + 1, by omega, by go_num, hs8, hc8, HS8, HM9, HR8⟩
            case measure => simp [intOf]; omega
          · obtain rfl : m = k := by omega
            have hki : ¬ (m : Int) < (m : Int) := by omega
            have HEND : Hid (halfT s.2 FF m = textsF m FF) := Lib.hid (by rw [HM.out, halfT_all])
            rw [HEND.out] at HSR
            have hcz := HSR.out.c0
            have hcz' := HSR.out.c1
            obtain ⟨hcj, hfj⟩ := HSR.out.data.atK HN.out.symm hjn
            have hgg := (HSR.out.data.1.lt gd rfl).1
            have hgh := HSR.out.data.2.2 gd rfl
            have h1b := HSR.out.hB
            have HS9 := Lib.hid (HSR.out.storeD (q := j) (x := t) HN.out.symm rfl (by omega))
            obtain ⟨q0, q1, g0, g1'⟩ := HRR.out.set (g := gd) (o := j) (z := .string (str t)) (by omega)
            have hd0 := HS9.out.c0
            have hd1 := HS9.out.c1
            have HF := Lib.hid (duo_store (R := w.heap.size + 1) HS9.out.own HS9.out.old (by omega) (by omega) (by omega))
            clear HSR HRR HMR hcm0
            go_wp2_with fail
            refine bodyPost_ret (v := .tuple #[.agg #[(.slice (some ⟨gd, 0, none⟩) n cp1), (.slice (some ⟨gp, 0, none⟩) m cp2)], .bool true]) (by simp [results, Tryd.results26, go_sem, q0, q1, g0, g1']) rfl ?_
            exact ⟨_, _, rfl, HF.out.1, HF.out.2⟩
      · have HO : Hid (chgOk s j t = false) := Lib.hid (by rw [HDEF.out]; simp [hl])
        have hne : ((t.length : Int) != (firstLen s : Int)) = true := by simp; omega
        rw [HO.out, HNO.out HO.out]
        generalize firstLen s = lf at *
        generalize t.length = lt at *
        clear h1 b1 hl HDEF HNO
        go_enter Tryd.func26, Tryd.ntmps26
        go_wp2_with fail
        refine HG.out.mono ?_
        rintro e w3 ⟨rfl, k3⟩
        have s3 := k3.size
        replace c0 := cell_turn k3 c0 (by omega)
        replace c1 := cell_turn k3 c1 (by omega)
        replace r0 := cell_turn k3 r0 (by omega)
        replace r1 := cell_turn k3 r1 (by omega)
        replace f0 := frozen_turn k3 f0 (by omega)
        replace f1 := frozen_turn k3 f1 (by omega)
        replace hcx0 := cell_turn (turn_trans HK2.out k3 (by omega)) hcx0 hbl
        have HF := Lib.hid (duo_store (R := w.heap.size + 1) (OwnT.nil 9 w3 (w.heap.size + 2) (by omega)) (turn_trans HK2.out k3 (by omega)).to_below (by omega) (by omega) (by omega))
        go_wp2_with fail
        refine (HIN.out _).mono ?_
        rintro e w' ⟨rfl, rfl⟩
        go_wp2_with fail
        refine bodyPost_ret (v := .tuple #[.agg #[.slice none 0 0, .slice none 0 0], .bool false]) (by simp [results, Tryd.results26, go_sem, r0, r1, f0, f1]) rfl ?_
        exact ⟨_, _, rfl, HF.out.1, HF.out.2⟩
    · have HIN : Hid (∀ W, Calls Tryd.prog 69 #[.int .i64 i, .int .i64 0, .int .i64 ((s.1.length : Int) - 1)] W fun e w' => e = .returned (.bool false) ∧ W = w') := Lib.hid (fun W => (show decide (0 ≤ i ∧ i ≤ (s.1.length : Int) - 1) = false by simp; omega) ▸ HINA.out W)
      have HO : Hid (chgOk s i t = false) := Lib.hid (by rw [HDEF.out]; simp [hi])
      rw [HO.out, HNO.out HO.out]
      clear h1 b1 hi HDEF HNO HINA
      go_enter Tryd.func26, Tryd.ntmps26
      go_wp2_with fail
      refine HG.out.mono ?_
      rintro e w3 ⟨rfl, k3⟩
      have s3 := k3.size
      replace c0 := cell_turn k3 c0 (by omega)
      replace c1 := cell_turn k3 c1 (by omega)
      replace r0 := cell_turn k3 r0 (by omega)
      replace r1 := cell_turn k3 r1 (by omega)
      replace f0 := frozen_turn k3 f0 (by omega)
      replace f1 := frozen_turn k3 f1 (by omega)
      have HF := Lib.hid (duo_store (R := w.heap.size + 1) (OwnT.nil 9 w3 (w.heap.size + 2) (by omega)) (turn_trans HK2.out k3 (by omega)).to_below (by omega) (by omega) (by omega))
      go_wp2_with fail
      refine (HIN.out _).mono ?_
      rintro e w' ⟨rfl, rfl⟩
      go_wp2_with fail
      refine bodyPost_ret (v := .tuple #[.agg #[.slice none 0 0, .slice none 0 0], .bool false]) (by simp [results, Tryd.results26, go_sem, r0, r1, f0, f1]) rfl ?_
      exact ⟨_, _, rfl, HF.out.1, HF.out.2⟩
  · have H1 : Hid (strpOk s = false) := Lib.hid (by simpa using h1)
    have HO : Hid (chgOk s i t = false) := Lib.hid (by rw [HDEF.out, H1.out]; simp)
    rw [H1.out] at HG
    rw [HO.out, HNO.out HO.out]
    clear h1 HDEF HNO
    go_enter Tryd.func26, Tryd.ntmps26
    go_wp2_with fail
    refine HG.out.mono ?_
    rintro e w3 ⟨rfl, k3⟩
    have s3 := k3.size
    replace c0 := cell_turn k3 c0 (by omega)
    replace c1 := cell_turn k3 c1 (by omega)
    replace r0 := cell_turn k3 r0 (by omega)
    replace r1 := cell_turn k3 r1 (by omega)
    replace f0 := frozen_turn k3 f0 (by omega)
    replace f1 := frozen_turn k3 f1 (by omega)
    have HF := Lib.hid (duo_store (R := w.heap.size + 1) (OwnT.nil 9 w3 (w.heap.size + 2) (by omega)) (turn_trans HK2.out k3 (by omega)).to_below (by omega) (by omega) (by omega))
    go_wp2_with fail
    refine bodyPost_ret (v := .tuple #[.agg #[.slice none 0 0, .slice none 0 0], .bool false]) (by simp [results, Tryd.results26, go_sem, r0, r1, f0, f1]) rfl ?_
    exact ⟨_, _, rfl, HF.out.1, HF.out.2⟩

end Go.Proofs.YtfglkgeeelapgaaDoor

/- The cursor's stripe. -/
namespace Go.Proofs.YtfglkgeeelapgaaDoor
open Go.RowKit G294
theorem cur_strs {w w' : World} {g m : Nat} {cv v : Value} {T : List (List UInt8)} (hc : CurAt w g cv m) (hv : Seen w v (strs T)) (t : TurnIn g (g + 1) w w') : Seen w' v (strs T) := by
  obtain ⟨A, c, rfl, h1, h2, h3⟩ := hv
  refine ⟨A, c, rfl, h1, h2, fun hp => ?_⟩
  obtain ⟨b, off, rfl, hb, hcell⟩ := h3 hp
  have hne : b ≠ g := by
    rintro rfl
    rw [strs_length] at hp
    have h := hcell 0 _ (strs_get T 0 hp)
    obtain ⟨at_, seed, l, A', c', hg, _, hcv, _⟩ := hc
    rw [Lib.cell_of_heap hg, hcv] at h
    rcases off with _ | _ | _ | off <;> simp at h
  exact ⟨b, off, rfl, Nat.lt_of_lt_of_le hb t.size, fun i u hu => (World.cell?_of_block (a := ⟨b, off + i, none⟩) (t.block b hb (by omega))).trans (hcell i u hu)⟩
theorem frozen_keepT {w w' : World} {B o a b : Nat} {x : Bool} (h : w.frozen? ⟨B, o, none⟩ = x) (hl : B < w.heap.size) (t : TurnIn a b w w') (d : B < a ∨ b ≤ B) : w'.frozen? ⟨B, o, none⟩ = x := by
  rw [← h]
  simp only [World.frozen?, t.block B hl d]
/-- a drawn stripe in its variable S, beside the cursor and the result's box R -/
structure StrSt (w W : World) (g R S lo mid hi m : Nat) (cv va vp : Value) (D P : List (List UInt8)) : Prop where
  cur : CurAt W g cv m
  kept : KeptR W R
  s0 : W.cell? ⟨S, 0, none⟩ = some va
  s1 : W.cell? ⟨S, 1, none⟩ = some vp
  data : OwnStrs 9 W lo mid va D
  par : OwnStrs 9 W mid hi vp P
  hg : g < w.heap.size
  hR : w.heap.size ≤ R
  hRl : R < lo
  hlm : lo ≤ mid
  hmh : mid ≤ hi
  hhS : hi ≤ S
  hSW : S < W.heap.size
  turn : TurnIn g (g + 1) w W
section
variable {w W W' : World} {g R S lo mid hi m m' : Nat} {cv va vp : Value} {D P : List (List UInt8)}
theorem StrSt.draw (h : StrSt w W g R S lo mid hi m cv va vp D P) (t : TurnIn g (g + 1) W W') (hc : CurAt W' g cv m') : StrSt w W' g R S lo mid hi m' cv va vp D P := by
  obtain ⟨a1, a2, a3, a4, a5, a6, a7, a8, a9, b1, b2, b3, b4, b5⟩ := h
  have sz := t.size
  exact ⟨hc, ⟨cell_keepT a2.r0 (by omega) t (by omega), cell_keepT a2.r1 (by omega) t (by omega), frozen_keepT a2.f0 (by omega) t (by omega), frozen_keepT a2.f1 (by omega) t (by omega)⟩, cell_keepT a3 b4 t (by omega), cell_keepT a4 b4 t (by omega), a5.keep t (by omega), a6.keep t (by omega), a7, a8, a9, b1, b2, b3, by omega, turn_trans b5 t (by omega)⟩
theorem StrSt.storeD {b n cap q : Nat} {x : List UInt8} (h : StrSt w W g R S lo mid hi m cv (.slice (some ⟨b, 0, none⟩) n cap) vp D P) (hn : D.length = n) : StrSt w (W.setCell ⟨b, q, none⟩ (.string (str x))) g R S lo mid hi m cv (.slice (some ⟨b, 0, none⟩) n cap) vp (D.set q x) P := by
  obtain ⟨a1, a2, a3, a4, a5, a6, a7, a8, a9, b1, b2, b3, b4, b5⟩ := h
  have g1 := (a5.1.lt b rfl).1
  have g2 := a5.2.2 b rfl
  have k := turn_setCell W b q (.string (str x))
  have sz := k.size
  exact ⟨a1.keep k (by omega), a2.set (by omega), (cell_set_other W _ _ _ (by omega)).trans a3, (cell_set_other W _ _ _ (by omega)).trans a4, a5.store hn rfl, a6.keep k (by omega), a7, a8, a9, b1, b2, b3, by omega, turn_trans b5 k (by omega)⟩
theorem StrSt.storeP {b n cap q : Nat} {x : List UInt8} (h : StrSt w W g R S lo mid hi m cv va (.slice (some ⟨b, 0, none⟩) n cap) D P) (hn : P.length = n) : StrSt w (W.setCell ⟨b, q, none⟩ (.string (str x))) g R S lo mid hi m cv va (.slice (some ⟨b, 0, none⟩) n cap) D (P.set q x) := by
  obtain ⟨a1, a2, a3, a4, a5, a6, a7, a8, a9, b1, b2, b3, b4, b5⟩ := h
  have g1 := (a6.1.lt b rfl).1
  have g2 := a6.2.2 b rfl
  have k := turn_setCell W b q (.string (str x))
  have sz := k.size
  exact ⟨a1.keep k (by omega), a2.set (by omega), (cell_set_other W _ _ _ (by omega)).trans a3, (cell_set_other W _ _ _ (by omega)).trans a4, a5.keep k (by omega), a6.store hn rfl, a7, a8, a9, b1, b2, b3, by omega, turn_trans b5 k (by omega)⟩
theorem StrSt.done (h : StrSt w W g R S lo mid hi m cv va vp D P) : OwnStrs 9 ((W.setCell ⟨R, 0, none⟩ va).setCell ⟨R, 1, none⟩ vp) lo mid va D ∧ OwnStrs 9 ((W.setCell ⟨R, 0, none⟩ va).setCell ⟨R, 1, none⟩ vp) mid hi vp P ∧ (w.heap.size ≤ lo ∧ lo ≤ mid ∧ mid ≤ hi ∧ hi ≤ ((W.setCell ⟨R, 0, none⟩ va).setCell ⟨R, 1, none⟩ vp).heap.size) ∧ CurAt ((W.setCell ⟨R, 0, none⟩ va).setCell ⟨R, 1, none⟩ vp) g cv m ∧ TurnIn g (g + 1) w ((W.setCell ⟨R, 0, none⟩ va).setCell ⟨R, 1, none⟩ vp) := by
  obtain ⟨a1, a2, a3, a4, a5, a6, a7, a8, a9, b1, b2, b3, b4, b5⟩ := h
  have k0 := turn_setCell W R 0 va
  have k1 := turn_setCell (W.setCell ⟨R, 0, none⟩ va) R 1 vp
  have q0 := k0.size
  have q1 := k1.size
  exact ⟨(a5.keep k0 (by omega)).keep k1 (by omega), (a6.keep k0 (by omega)).keep k1 (by omega), ⟨by omega, b1, b2, by omega⟩, (a1.keep k0 (by omega)).keep k1 (by omega), turn_trans (turn_trans b5 k0 (by omega)) k1 (by omega)⟩
end
/-- some stripe is drawn -/
def DrawsT (w : World) (g : Nat) (cv : Value) (m : Nat) (e : Ending) (w' : World) : Prop := ∃ (x y : Value) (t : Strp) (lo mid hi : Nat), e = .returned (.agg #[x, y]) ∧ OwnStrs 9 w' lo mid x t.1 ∧ OwnStrs 9 w' mid hi y t.2 ∧ (w.heap.size ≤ lo ∧ lo ≤ mid ∧ mid ≤ hi ∧ hi ≤ w'.heap.size) ∧ (t.1.length ≤ 16 ∧ ∀ r ∈ t.1, r.length ≤ 40) ∧ CurAt w' g cv m ∧ TurnIn g (g + 1) w w'

end Go.Proofs.YtfglkgeeelapgaaDoor

/- The cursor draws a stripe. -/
namespace Go.Proofs.YtfglkgeeelapgaaDoor
open Go.RowKit G294
theorem rowsT_mem_len {r c n : Nat} {F : Ents} {T : List (List UInt8)} {t : List UInt8} (h : t ∈ rowsT r c n F T) : t.length = n := by
  simp only [rowsT, mkM, List.mem_map] at h
  obtain ⟨i, _, rfl⟩ := h
  exact mkRow_length _ _

set_option maxRecDepth 100000 in
set_option maxHeartbeats 8000000 in
theorem stripe_any (g : Nat) (cv : Value) (m : Nat) (w : World) (hc : CurAt w g cv m) (hm : m ≤ 1000000) :
    Calls Tryd.prog 71 #[.pointer (some ⟨g, 0, none⟩)] w (DrawsT w g cv (m + 2000)) := by
  have hgw := hc.lt
  have a0 := turn_alloc w (.cells #[.slice none 0 0, .slice none 0 0] 25)
  have z0 : w.heap.size + 1 ≤ (w.alloc (.cells #[.slice none 0 0, .slice none 0 0] 25)).heap.size := by simp
  have z0b : (w.alloc (.cells #[.slice none 0 0, .slice none 0 0] 25)).heap.size ≤ w.heap.size + 1 := by simp
  have hR0 : KeptR (w.alloc (.cells #[.slice none 0 0, .slice none 0 0] 25)) w.heap.size := ⟨alloc_duo0 _ _ _ _, alloc_duo1 _ _ _ _, alloc_frz _ _ _ _, alloc_frz _ _ _ _⟩
  have hc0 := hc.keep a0 (by omega)
  have HR0 := Lib.hid hR0
  clear hR0
  go_enter Tryd.func71, Tryd.ntmps71
  go_wp2_with fail
  refine (pick_any g cv m 5 _ hc0 (by omega)).mono ?_
  rintro e w1 ⟨r, rfl, ra, rb, hc1, k1⟩
  have hr : r ≤ 4 := by simpa [pickHi] using rb
  obtain ⟨rn, rfl⟩ := Int.eq_ofNat_of_zero_le ra
  have HD : Hid (Calls Tryd.prog 111 #[.pointer (some ⟨g, 0, none⟩), .int .i64 (1 + (rn : Int))] w1 (DrawsStrs w1 g cv (m + 2 + 10 + 200 * (1 + rn)))) := Lib.hid (by
    have h := data_any g cv (m + 2) (1 + rn) w1 hc1 (by omega) (by omega)
    have e : ((1 + rn : Nat) : Int) = 1 + (rn : Int) := by omega
    rwa [e] at h)
  have s1 := k1.size
  clear rb ra
  go_wp2_with fail
  refine HD.out.mono ?_
  rintro e w2 ⟨v2, T, rfl, hT, hc2, k2⟩
  have s2 := k2.size
  obtain ⟨A2, c2, hv2⟩ := hT.len
  rw [strs_length] at hv2
  subst hv2
  have HT := Lib.hid hT
  clear hT
  go_wp2_with fail
  refine (pick_any g cv _ 3 _ hc2 (by omega)).mono ?_
  rintro e w3 ⟨q, rfl, qa, qb, hc3, k3⟩
  have s3 := k3.size
  have hq2 : q ≤ 2 := by simpa [pickHi] using qb
  clear qb
  have HM := Lib.hid (sMakeStripe_own _ T (1 + q) w3 (cur_strs hc2 HT.out k3))
  clear HT HD
  go_wp2_with fail
  refine HM.out.mono ?_
  rintro e w4 ⟨x4, y4, rfl, hO, k4⟩
  obtain ⟨A4, n4, e4, A5, n5, e5, rfl, rfl⟩ := hO.isSlice
  obtain ⟨mid, hlm, hmh, oD, oP⟩ := hO
  have s4 := k4.size
  have a5 := turn_alloc w4 (.cells #[.slice A4 n4 e4, .slice A5 n5 e5] 25)
  have z5 := World.size_alloc w4 (.cells #[.slice A4 n4 e4, .slice A5 n5 e5] 25)
  have aG : TurnIn g (g + 1) w (w.alloc (.cells #[.slice none 0 0, .slice none 0 0] 25)) := ⟨a0.os, a0.tape, a0.output, a0.size, fun k hk _ => a0.block k hk (by omega)⟩
  have k03 := turn_trans (turn_trans k1 k2 (by omega)) k3 (by omega)
  have k05 := turn_trans (turn_trans (turn_trans aG k03 (by omega)) k4 (by omega)) a5 (by omega)
  have hR3 : KeptR w3 w.heap.size := ⟨cell_keepT HR0.out.r0 (by omega) k03 (by omega), cell_keepT HR0.out.r1 (by omega) k03 (by omega), frozen_keepT HR0.out.f0 (by omega) k03 (by omega), frozen_keepT HR0.out.f1 (by omega) k03 (by omega)⟩
  have k45 := turn_trans k4 a5 (by omega)
  have hSt : StrSt w (w4.alloc (.cells #[.slice A4 n4 e4, .slice A5 n5 e5] 25)) g w.heap.size w4.heap.size w3.heap.size mid w4.heap.size (m + 1200) cv (.slice A4 n4 e4) (.slice A5 n5 e5) (mkR T (1 + q)).1 (mkR T (1 + q)).2 :=
    ⟨((hc3.keep k4 (by omega)).keep a5 (by omega)).more (by omega), hR3.turn k45 (by omega), alloc_duo0 _ _ _ _, alloc_duo1 _ _ _ _, oD.keep a5 (by omega), oP.keep a5 (by omega), hgw, Nat.le_refl _, by omega, hlm, hmh, Nat.le_refl _, by omega, k05⟩
  have hl4 : n4 = (mkR T (1 + q)).1.length := by
    obtain ⟨A, c, h⟩ := oD.seen.len
    rw [strs_length] at h
    simp at h; exact h.2.1
  have hl5 : n5 = (mkR T (1 + q)).2.length := by
    obtain ⟨A, c, h⟩ := oP.seen.len
    rw [strs_length] at h
    simp at h; exact h.2.1
  have HL4 := Lib.hid hl4
  have HL5 := Lib.hid hl5
  have hs5 : w.heap.size ≤ (w4.alloc (.cells #[.slice A4 n4 e4, .slice A5 n5 e5] 25)).heap.size := by omega
  have HOK : Hid ((mkOk T (1 + q) = false → n4 = 0) ∧ (mkOk T (1 + q) = true → 1 ≤ n4 ∧ n4 ≤ 16 ∧ 1 ≤ n5 ∧ n5 ≤ 4 ∧ (∀ t ∈ (mkR T (1 + q)).1, t.length ≤ 40) ∧ ∀ t ∈ (mkR T (1 + q)).2, t.length ≤ 40)) := Lib.hid (by
    constructor
    · intro h; rw [HL4.out, mkR_no h]; rfl
    · intro h
      rw [HL4.out, HL5.out]
      unfold mkR
      rw [if_pos h]
      simp only [mkOk, prmOk, Bool.and_eq_true] at h
      have h1 := goodI_b h.1.1
      have h2 := par4_b h.1.2
      have h3 := textsOk_all.1 h.2
      refine ⟨by simp only [mkS]; omega, by simp only [mkS]; omega, by simp only [mkS, rowsT_length]; omega, by simp only [mkS, rowsT_length]; omega, fun t ht => (h3 t ht).2, fun t ht => by rw [rowsT_mem_len ht]; exact (h3 _ (getD_mem (by omega))).2⟩)
  generalize hD : (mkR T (1 + q)).1 = D at *
  generalize hP : (mkR T (1 + q)).2 = P at *
  generalize hok : mkOk T (1 + q) = ok at *
  have HSt := Lib.hid hSt
  have t0 := hSt.s0
  have t1 := hSt.s1
  clear hD hP hok hl4 hl5 hSt oD oP k4 a5 k45 k05 k03 HM HR0 hR3 k1 k2 k3 hc1 hc2 hc3 hc0 a0 aG
  cases ok
  · have hn0 : n4 = 0 := HOK.out.1 rfl
    subst hn0
    have HZ := HSt
    have HLL : Hid (D.length ≤ 16 ∧ ∀ r ∈ D, r.length ≤ 40) := Lib.hid ⟨by rw [← HL4.out]; omega, fun r hr => by have := List.length_pos_of_mem hr; have := HL4.out; omega⟩
    obtain ⟨q0, q1, g0, g1⟩ := HZ.out.kept
    have u0 := HZ.out.s0
    have u1 := HZ.out.s1
    have HE := Lib.hid HZ.out.done
    go_wp2_with fail
    refine bodyPost_ret (v := .agg #[.slice A4 0 e4, .slice A5 n5 e5]) (by simp [results, Tryd.results71, go_sem, q0, q1, g0, g1]) rfl ?_
    exact ⟨_, _, (_, _), _, _, _, rfl, HE.out.1, HE.out.2.1, HE.out.2.2.1, HLL.out, HE.out.2.2.2.1.more (by omega), HE.out.2.2.2.2⟩
  · obtain ⟨y1, y2, y3, y4, y5, y6⟩ := HOK.out.2 rfl
    have hpos : (0 : Int) < (n4 : Int) := by omega
    have hposd : decide ((0 : Int) < (n4 : Int)) = true := by simpa using hpos
    have HY5 := Lib.hid y5
    have HY6 := Lib.hid y6
    clear y5 y6
    go_wp2_with fail
    generalize (w4.alloc (.cells #[.slice A4 n4 e4, .slice A5 n5 e5] 25)) = w5 at *
    refine (one_any g cv _ 5 _ HSt.out.cur (by omega)).mono ?_
    rintro e w6 ⟨b6, rfl, hc6, k6⟩
    have HS6 := Lib.hid (HSt.out.draw k6 hc6)
    clear t0 t1
    cases b6
    · have HS := HS6
      have HLL : Hid (D.length ≤ 16 ∧ ∀ r ∈ D, r.length ≤ 40) := Lib.hid ⟨by rw [← HL4.out]; omega, HY5.out⟩
      have v0 := HS.out.s0
      have v1 := HS.out.s1
      go_wp2_with fail
      refine (one_any g cv _ 30 _ HS.out.cur (by omega)).mono ?_
      rintro e w8 ⟨b8, rfl, hc8, k8⟩
      have HS8 := Lib.hid (HS.out.draw k8 hc8)
      clear v0 v1
      cases b8
      · have HZ := HS8
        obtain ⟨q0, q1, g0, g1⟩ := HZ.out.kept
        have u0 := HZ.out.s0
        have u1 := HZ.out.s1
        have HE := Lib.hid HZ.out.done
        go_wp2_with fail
        refine bodyPost_ret (v := .agg #[.slice A4 n4 e4, .slice A5 n5 e5]) (by simp [results, Tryd.results71, go_sem, q0, q1, g0, g1]) rfl ?_
        exact ⟨_, _, (_, _), _, _, _, rfl, HE.out.1, HE.out.2.1, HE.out.2.2.1, HLL.out, HE.out.2.2.2.1.more (by omega), HE.out.2.2.2.2⟩
      · obtain ⟨gp, cpp, hvp, hgp1, hgp2, hgp3, hgp4, hcellp, hfzp⟩ := HS8.out.par.shape (by rw [← HL5.out]; omega)
        rw [← HL5.out] at hvp
        obtain ⟨rfl, rfl⟩ : A5 = some ⟨gp, 0, none⟩ ∧ e5 = cpp := by simpa using hvp
        have hcp0 := hcellp 0 (by rw [← HL5.out]; omega)
        have hfp0 := hfzp 0
        have x0 := HS8.out.s0
        have x1 := HS8.out.s1
        have hp0 : (0 : Int) < (n5 : Int) := by omega
        have HZ := Lib.hid (HS8.out.storeP (q := 0) (x := P.getD 0 [] ++ [120]) HL5.out.symm)
        have HSTR : Hid (str (P.getD 0 [] ++ [120]) = str (P.getD 0 []) ++ ByteArray.mk #[120]) := Lib.hid (by simp [str]; rfl)
        rw [HSTR.out] at HZ
        clear HSTR
        have hp40 : (P.getD 0 []).length ≤ 40 := HY6.out _ (getD_mem (by rw [← HL5.out]; omega))
        have hszp := str_size (P.getD 0 [])
        generalize P.getD 0 [] = px at *
        clear hvp hcellp hfzp
        obtain ⟨q0, q1, g0, g1⟩ := HZ.out.kept
        have u0 := HZ.out.s0
        have u1 := HZ.out.s1
        have HE := Lib.hid HZ.out.done
        go_wp2_with fail
        refine bodyPost_ret (v := .agg #[.slice A4 n4 e4, .slice (some ⟨gp, 0, none⟩) n5 e5]) (by simp [results, Tryd.results71, go_sem, q0, q1, g0, g1]) rfl ?_
        exact ⟨_, _, (_, _), _, _, _, rfl, HE.out.1, HE.out.2.1, HE.out.2.2.1, HLL.out, HE.out.2.2.2.1.more (by omega), HE.out.2.2.2.2⟩
    · have t0 := HS6.out.s0
      go_wp2_with fail
      refine (pick_any g cv _ (n4 : Int) _ HS6.out.cur (by omega)).mono ?_
      rintro e w7 ⟨kk, rfl, ka, kb, hc7, k7⟩
      have HS7 := Lib.hid (HS6.out.draw k7 hc7)
      obtain ⟨k, rfl⟩ := Int.eq_ofNat_of_zero_le ka
      have hkn : k < n4 := by
        unfold pickHi at kb
        split at kb <;> omega
      have hki : (k : Int) < (n4 : Int) := by omega
      obtain ⟨gd, cpd, hvd, hgd1, hgd2, hgd3, hgd4, hcelld, hfzd⟩ := HS7.out.data.shape (by rw [← HL4.out]; omega)
      rw [← HL4.out] at hvd
      obtain ⟨rfl, rfl⟩ : A4 = some ⟨gd, 0, none⟩ ∧ e4 = cpd := by simpa using hvd
      have hcd := hcelld k (by rw [← HL4.out]; exact hkn)
      have hfd := hfzd k
      have hx40 : (D.getD k []).length ≤ 40 := HY5.out _ (getD_mem (by rw [← HL4.out]; exact hkn))
      have hsz := str_size (D.getD k [])
      have hq0 := HS7.out.s0
      have hgg := HS7.out.hg
      have hRR := HS7.out.hRl
      have hSS := HS7.out.hhS
      have hWW := HS7.out.hSW
      generalize D.getD k [] = xx at *
      clear hvd hcelld hfzd t0 kb
      go_wp2_with fail
      have hS : (fun W : World => W.cell? ⟨w4.heap.size, 0, none⟩ = some (.slice (some ⟨gd, 0, none⟩) n4 e4) ∧ W.cell? ⟨gd, k, none⟩ = some (.string (str xx))) w7.drew := ⟨hq0, hcd⟩
      refine wp_region_tail (fun W : World => W.cell? ⟨w4.heap.size, 0, none⟩ = some (.slice (some ⟨gd, 0, none⟩) n4 e4) ∧ W.cell? ⟨gd, k, none⟩ = some (.string (str xx))) 12 (by kernel_rfl) ?_
      refine wpAnyT_take (i := 0) (oi := _) (v := ?va0) rfl (by kernel_rfl) (by kernel_rfl) (by kernel_rfl) (by kernel_rfl) (fun _ _ _ h => h) (Or.inl ⟨by rfl, ?hya0⟩) hS ?resta0
      case hya0 => (intro W hW; obtain ⟨e1, e2⟩ := hW; go_simp; try with_reducible rfl)
      simp only [Act.put, List.setIfInBounds_toArray, List.set_cons_zero, List.set_cons_succ]
      refine wpAnyT_take (i := 1) (oi := _) (v := ?va1) rfl (by kernel_rfl) (by kernel_rfl) (by kernel_rfl) (by kernel_rfl) (fun _ _ _ h => h) (Or.inl ⟨by rfl, ?hya1⟩) hS ?resta1
      case hya1 => (intro W hW; obtain ⟨e1, e2⟩ := hW; go_simp; try with_reducible rfl)
      simp only [Act.put, List.setIfInBounds_toArray, List.set_cons_zero, List.set_cons_succ]
      refine wpAnyT_take (i := 2) (oi := _) (v := ?va2) rfl (by kernel_rfl) (by kernel_rfl) (by kernel_rfl) (by kernel_rfl) (fun _ _ _ h => h) (Or.inl ⟨by rfl, ?hya2⟩) hS ?resta2
      case hya2 => (intro W hW; obtain ⟨e1, e2⟩ := hW; go_simp; try with_reducible rfl)
      simp only [Act.put, List.setIfInBounds_toArray, List.set_cons_zero, List.set_cons_succ]
      refine wpAnyT_take (i := 3) (oi := _) (v := ?va3) rfl (by kernel_rfl) (by kernel_rfl) (by kernel_rfl) (by kernel_rfl) (fun _ _ _ h => h) (Or.inl ⟨by rfl, ?hya3⟩) hS ?resta3
      case hya3 => (intro W hW; obtain ⟨e1, e2⟩ := hW; go_simp; try with_reducible rfl)
      simp only [Act.put, List.setIfInBounds_toArray, List.set_cons_zero, List.set_cons_succ]
      refine wpAnyT_take (i := 4) (oi := _) (v := ?va4) rfl (by kernel_rfl) (by kernel_rfl) (by kernel_rfl) (by kernel_rfl) (fun _ _ _ h => h) (Or.inl ⟨by rfl, ?hya4⟩) hS ?resta4
      case hya4 => (intro W hW; obtain ⟨e1, e2⟩ := hW; go_simp; try with_reducible rfl)
      simp only [Act.put, List.setIfInBounds_toArray, List.set_cons_zero, List.set_cons_succ]
      refine wpAnyT_take (i := 5) (oi := _) (v := ?va5) rfl (by kernel_rfl) (by kernel_rfl) (by kernel_rfl) (by kernel_rfl) (fun _ _ _ h => h) (Or.inl ⟨by rfl, ?hya5⟩) hS ?resta5
      case hya5 => (intro W hW; obtain ⟨e1, e2⟩ := hW; go_simp; try with_reducible rfl)
      simp only [Act.put, List.setIfInBounds_toArray, List.set_cons_zero, List.set_cons_succ]
      refine wpAnyT_take (i := 6) (oi := _) (v := ?va6) rfl (by kernel_rfl) (by kernel_rfl) (by kernel_rfl) (by kernel_rfl) (fun _ _ _ h => h) (Or.inl ⟨by rfl, ?hya6⟩) hS ?resta6
      case hya6 => (intro W hW; obtain ⟨e1, e2⟩ := hW; go_simp; try with_reducible rfl)
      simp only [Act.put, List.setIfInBounds_toArray, List.set_cons_zero, List.set_cons_succ]
      refine wpAnyT_take (i := 7) (oi := _) (v := ?va7) rfl (by kernel_rfl) (by kernel_rfl) (by kernel_rfl) (by kernel_rfl) (fun _ _ _ h => h) (Or.inl ⟨by rfl, ?hya7⟩) hS ?resta7
      case hya7 => (intro W hW; obtain ⟨e1, e2⟩ := hW; go_simp; try with_reducible rfl)
      simp only [Act.put, List.setIfInBounds_toArray, List.set_cons_zero, List.set_cons_succ]
      refine wpAnyT_take (i := 8) (oi := _) (v := ?va8) rfl (by kernel_rfl) (by kernel_rfl) (by kernel_rfl) (by kernel_rfl) (fun _ _ _ h => h) (Or.inl ⟨by rfl, ?hya8⟩) hS ?resta8
      case hya8 => (intro W hW; obtain ⟨e1, e2⟩ := hW; go_simp; try with_reducible rfl)
      simp only [Act.put, List.setIfInBounds_toArray, List.set_cons_zero, List.set_cons_succ]
      refine wpAnyT_take (i := 9) (oi := _) (v := ?va9) rfl (by kernel_rfl) (by kernel_rfl) (by kernel_rfl) (by kernel_rfl) (fun _ _ _ h => h) (Or.inl ⟨by rfl, ?hya9⟩) hS ?resta9
      case hya9 => (intro W hW; obtain ⟨e1, e2⟩ := hW; go_simp; try with_reducible rfl)
      simp only [Act.put, List.setIfInBounds_toArray, List.set_cons_zero, List.set_cons_succ]
      refine wpAnyT_one (i := 10) (o := _) rfl (by kernel_rfl) (fun K hK => ?_)
      go_simp
      refine (text_any g cv _ xx.length _ (show CurAt w7.drew g cv _ from hc7) (by omega)).mono ?_
      rintro e w8 ⟨tx, rfl, htx, hc8, k8'⟩
      have k8 := undrew k8'
      have s8 := k8.size
      have t0 := cell_keepT hq0 (by omega) k8 (by omega)
      have t1 := cell_keepT hcd (by omega) k8 (by omega)
      have t5 := frozen_keepT hfd (by omega) k8 (by omega)
      refine hK.out _ _ (fun _ => ⟨t0, t1⟩) ?_
      clear hK K hS
      try simp only [Act.put, List.setIfInBounds_toArray, List.set_cons_zero, List.set_cons_succ]
      refine wpAnyT_one (i := 11) (o := _) rfl (by kernel_rfl) (fun K hK => ?_)
      go_simp
      refine hK.out _ _ (fun _ => ⟨t0, t1⟩) ?_
      clear hK K
      try simp only [Act.put, List.setIfInBounds_toArray, List.set_cons_zero, List.set_cons_succ]
      refine wpAnyT_one (i := 12) (o := _) rfl (by kernel_rfl) (fun K hK => ?_)
      go_simp
      refine hK.out _ _ (fun h => absurd rfl h) ?_
      clear hK K
      try simp only [Act.put, List.setIfInBounds_toArray, List.set_cons_zero, List.set_cons_succ]
      refine wpAnyT_done (by kernel_rfl) ?_ _
      have HS := Lib.hid ((HS7.out.draw k8 hc8).storeD (q := k) (x := tx) HL4.out.symm)
      have HLL : Hid ((D.set k tx).length ≤ 16 ∧ ∀ r ∈ D.set k tx, r.length ≤ 40) := Lib.hid ⟨by rw [List.length_set, ← HL4.out]; omega, fun r hr => by
        rcases List.mem_or_eq_of_mem_set hr with h | rfl
        · exact HY5.out _ h
        · rw [htx]; exact hx40⟩
      clear t0 t1 t5 k8 k8' hcd hfd hq0
      have v0 := HS.out.s0
      have v1 := HS.out.s1
      go_wp2_with fail
      refine (one_any g cv _ 30 _ HS.out.cur (by omega)).mono ?_
      rintro e w9 ⟨b9, rfl, hc9, k9⟩
      have HS8 := Lib.hid (HS.out.draw k9 hc9)
      clear v0 v1
      cases b9
      · have HZ := HS8
        obtain ⟨q0, q1, g0, g1⟩ := HZ.out.kept
        have u0 := HZ.out.s0
        have u1 := HZ.out.s1
        have HE := Lib.hid HZ.out.done
        go_wp2_with fail
        refine bodyPost_ret (v := .agg #[.slice (some ⟨gd, 0, none⟩) n4 e4, .slice A5 n5 e5]) (by simp [results, Tryd.results71, go_sem, q0, q1, g0, g1]) rfl ?_
        exact ⟨_, _, (_, _), _, _, _, rfl, HE.out.1, HE.out.2.1, HE.out.2.2.1, HLL.out, HE.out.2.2.2.1.more (by omega), HE.out.2.2.2.2⟩
      · obtain ⟨gp, cpp, hvp, hgp1, hgp2, hgp3, hgp4, hcellp, hfzp⟩ := HS8.out.par.shape (by rw [← HL5.out]; omega)
        rw [← HL5.out] at hvp
        obtain ⟨rfl, rfl⟩ : A5 = some ⟨gp, 0, none⟩ ∧ e5 = cpp := by simpa using hvp
        have hcp0 := hcellp 0 (by rw [← HL5.out]; omega)
        have hfp0 := hfzp 0
        have x0 := HS8.out.s0
        have x1 := HS8.out.s1
        have hp0 : (0 : Int) < (n5 : Int) := by omega
        have HZ := Lib.hid (HS8.out.storeP (q := 0) (x := P.getD 0 [] ++ [120]) HL5.out.symm)
        have HSTR : Hid (str (P.getD 0 [] ++ [120]) = str (P.getD 0 []) ++ ByteArray.mk #[120]) := Lib.hid (by simp [str]; rfl)
        rw [HSTR.out] at HZ
        clear HSTR
        have hp40 : (P.getD 0 []).length ≤ 40 := HY6.out _ (getD_mem (by rw [← HL5.out]; omega))
        have hszp := str_size (P.getD 0 [])
        generalize P.getD 0 [] = px at *
        clear hvp hcellp hfzp
        obtain ⟨q0, q1, g0, g1⟩ := HZ.out.kept
        have u0 := HZ.out.s0
        have u1 := HZ.out.s1
        have HE := Lib.hid HZ.out.done
        go_wp2_with fail
        refine bodyPost_ret (v := .agg #[.slice (some ⟨gd, 0, none⟩) n4 e4, .slice (some ⟨gp, 0, none⟩) n5 e5]) (by simp [results, Tryd.results71, go_sem, q0, q1, g0, g1]) rfl ?_
        exact ⟨_, _, (_, _), _, _, _, rfl, HE.out.1, HE.out.2.1, HE.out.2.2.1, HLL.out, HE.out.2.2.2.1.more (by omega), HE.out.2.2.2.2⟩

end Go.Proofs.YtfglkgeeelapgaaDoor
