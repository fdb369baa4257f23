/- Joined texts: Chg2. -/
import Derived.Test.YtbopocpmodpfcaaDoorBd14
import Derived.Test.YtbopocpmodpfcaaDoorBd12
import Derived.Test.YtbopocpmodpfcaaDoorBd06
set_option linter.unusedSimpArgs false
set_option linter.unusedVariables false
/- ChangeStripe, the model's. -/
namespace G294
open Go Go.RowKit
/-- the cells of a result's box, still empty, may be written -/
structure KeptR (W : World) (R : Nat) : Prop where
  r0 : W.cell? ⟨R, 0, none⟩ = some (.slice none 0 0)
  r1 : W.cell? ⟨R, 1, none⟩ = some (.slice none 0 0)
  f0 : W.frozen? ⟨R, 0, none⟩ = false
  f1 : W.frozen? ⟨R, 1, none⟩ = false
theorem KeptR.turn {W W' : World} {R : Nat} (h : KeptR W R) (t : TurnIn 0 0 W W') (hR : R < W.heap.size) : KeptR W' R := ⟨cell_turn t h.r0 hR, cell_turn t h.r1 hR, frozen_turn t h.f0 hR, frozen_turn t h.f1 hR⟩
theorem KeptR.set {W : World} {R g o : Nat} {z : Value} (h : KeptR W R) (hn : g ≠ R) : KeptR (W.setCell ⟨g, o, none⟩ z) R := ⟨(cell_set_other W _ _ _ hn).trans h.r0, (cell_set_other W _ _ _ hn).trans h.r1, (frozen_set_other W _ _ _ hn).trans h.f0, (frozen_set_other W _ _ _ hn).trans h.f1⟩
end G294
namespace Go.Proofs.YtbopocpmodpfcaaDoor
open Go.RowKit G294

set_option maxRecDepth 100000 in
set_option maxHeartbeats 8000000 in
theorem sChangeStripe_own (v u : Value) (s : Strp) (i : Int) (t : List UInt8) (w : World) (hv : Seen w v (strs s.1)) (hu : Seen w u (strs s.2)) (htl : t.length ≤ 1048576) :
    Calls Tryd.prog 28 #[.agg #[v, u], .int .i64 i, .string (str t)] w (RetTOk 9 w (chgR s i t) (chgOk s i t)) := by
  have HV0 := Lib.hid hv
  have HU0 := Lib.hid hu
  obtain ⟨A, c, hvv⟩ := hv.len
  obtain ⟨B, d, huu⟩ := hu.len
  rw [strs_length] at hvv huu
  subst hvv huu
  have a1 := turn_alloc w (.cells #[.slice A s.1.length c, .slice B s.2.length d] 25)
  have a2 := turn_alloc (w.alloc (.cells #[.slice A s.1.length c, .slice B s.2.length d] 25)) (.cells #[.slice none 0 0, .slice none 0 0] 25)
  have z2 : ((w.alloc (.cells #[.slice A s.1.length c, .slice B s.2.length d] 25)).alloc (.cells #[.slice none 0 0, .slice none 0 0] 25)).heap.size = w.heap.size + 2 := by simp
  have c0 := cell_turn a2 (alloc_duo0 w (.slice A s.1.length c) (.slice B s.2.length d) 25) (alloc_lt _ _)
  have c1 := cell_turn a2 (alloc_duo1 w (.slice A s.1.length c) (.slice B s.2.length d) 25) (alloc_lt _ _)
  have fx0 := frozen_turn a2 (alloc_frz w #[.slice A s.1.length c, .slice B s.2.length d] 25 0) (alloc_lt _ _)
  have fx1 := frozen_turn a2 (alloc_frz w #[.slice A s.1.length c, .slice B s.2.length d] 25 1) (alloc_lt _ _)
  have r0 := alloc_duo0 (w.alloc (.cells #[.slice A s.1.length c, .slice B s.2.length d] 25)) (.slice none 0 0) (.slice none 0 0) 25
  have r1 := alloc_duo1 (w.alloc (.cells #[.slice A s.1.length c, .slice B s.2.length d] 25)) (.slice none 0 0) (.slice none 0 0) 25
  have f0 := alloc_frz (w.alloc (.cells #[.slice A s.1.length c, .slice B s.2.length d] 25)) #[.slice none 0 0, .slice none 0 0] 25 0
  have f1 := alloc_frz (w.alloc (.cells #[.slice A s.1.length c, .slice B s.2.length d] 25)) #[.slice none 0 0, .slice none 0 0] 25 1
  rw [World.size_alloc] at r0 r1 f0 f1
  have k2 := turn_trans a1 a2 (by omega)
  have HG := Lib.hid (sGoodStripe_any _ _ s _ (hv.touch k2) (hu.touch k2))
  have HK2 := Lib.hid k2
  have HDEF : Hid (chgOk s i t = (strpOk s && (decide (0 ≤ i ∧ i < (s.1.length : Int)) && decide (t.length = firstLen s)))) := Lib.hid rfl
  have HNO : Hid (chgOk s i t = false → chgR s i t = ([], [])) := Lib.hid chgR_no
  have hsz2 : w.heap.size + 2 ≤ ((w.alloc (.cells #[.slice A s.1.length c, .slice B s.2.length d] 25)).alloc (.cells #[.slice none 0 0, .slice none 0 0] 25)).heap.size := by omega
  clear hv hu a1 a2 z2 k2
  by_cases h1 : strpOk s = true
  · have H1 := Lib.hid h1
    have b1 := strpOk_b h1
    rw [H1.out] at HG
    have hw1 : IntKind.i64.wrap ((s.1.length : Int) - 1) = (s.1.length : Int) - 1 := IntWalk.i64_in _ (by omega)
    have HINA : Hid (∀ W, Calls Tryd.prog 73 #[.int .i64 i, .int .i64 0, .int .i64 ((s.1.length : Int) - 1)] W fun e w' => e = .returned (.bool (decide (0 ≤ i ∧ i ≤ (s.1.length : Int) - 1))) ∧ W = w') := Lib.hid (fun W => l1In_any i 0 ((s.1.length : Int) - 1) W)
    by_cases hi : 0 ≤ i ∧ i < (s.1.length : Int)
    · have HIN : Hid (∀ W, Calls Tryd.prog 73 #[.int .i64 i, .int .i64 0, .int .i64 ((s.1.length : Int) - 1)] W fun e w' => e = .returned (.bool true) ∧ W = w') := Lib.hid (fun W => (show decide (0 ≤ i ∧ i ≤ (s.1.length : Int) - 1) = true by simp; omega) ▸ HINA.out W)
      obtain ⟨j, rfl⟩ := Int.eq_ofNat_of_zero_le hi.1
      have hj : j < s.1.length := by omega
      obtain ⟨b, off, cc, hvv, hbl, hlm, hcx0⟩ := seen_at HV0.out (show 0 < s.1.length by omega)
      rw [Nat.add_zero] at hcx0
      obtain ⟨rfl, rfl⟩ : A = some ⟨b, off, none⟩ ∧ c = cc := by simpa using hvv
      have hst := str_size t
      have hs0 := str_size (s.1.getD 0 [])
      have HL0 : Hid ((s.1.getD 0 []).length = firstLen s) := Lib.hid rfl
      rw [HL0.out] at hs0
      have h40 := strp_len40 h1
      have hpos : 0 < s.1.length := by omega
      obtain ⟨x0, hx0⟩ : ∃ x, x = s.1.getD 0 [] := ⟨_, rfl⟩
      rw [← hx0] at hcx0 hs0
      clear hvv hi hx0 HINA HL0
      by_cases hl : t.length = firstLen s
      · have HO : Hid (chgOk s j t = true) := Lib.hid (by rw [HDEF.out, h1]; simp [hl, hj])
        obtain ⟨xj, hxj⟩ : ∃ x, x = s.1.getD j [] := ⟨_, rfl⟩
        have HXJ := Lib.hid hxj
        obtain ⟨df, hdf⟩ : ∃ x, x = plusL xj 1 t := ⟨_, rfl⟩
        have HDF := Lib.hid hdf
        obtain ⟨FF, hFF⟩ : ∃ F : Nat → List UInt8, F = fun k => plusL (s.2.getD k []) (prmF k j) df := ⟨_, rfl⟩
        have HFF := Lib.hid hFF
        have HR : Hid (chgR s j t = (s.1.set j t, textsF s.2.length FF)) := Lib.hid (by rw [chgR_yes HO.out, hFF, hdf, hxj]; rfl)
        have HXL : Hid (xj.length = t.length) := Lib.hid (by rw [hxj, strp_len1 h1 hj, hl])
        have HDL : Hid (df.length = t.length) := Lib.hid (by rw [hdf, plusL_length, HXL.out])
        have HLEN : Hid (∀ k, k < s.2.length → (s.2.getD k []).length = t.length) := Lib.hid (fun k hk => by rw [strp_len2 h1 hk, hl])
        rw [hl] at hst
        rw [HO.out, HR.out]
        have ht40 : t.length ≤ 40 := by omega
        have hne : ((firstLen s : Int) != (firstLen s : Int)) = false := by simp
        obtain ⟨n, hn⟩ : ∃ n, n = s.1.length := ⟨_, rfl⟩
        obtain ⟨m, hm⟩ : ∃ m, m = s.2.length := ⟨_, rfl⟩
        have HN := Lib.hid hn
        have HM := Lib.hid hm
        have bn : 1 ≤ n ∧ n ≤ 16 := by omega
        have bm : 1 ≤ m ∧ m ≤ 4 := by omega
        have hjn : j < n := by omega
        have hji : (j : Int) < (n : Int) := by omega
        rw [← hn] at c0 c1 fx0 fx1 r0 r1 f0 f1 hsz2 HG HK2 HV0 HIN hw1 hlm hpos ⊢
        rw [← hm] at c0 c1 fx0 fx1 r0 r1 f0 f1 hsz2 HG HK2 HU0 ⊢
        generalize firstLen s = lf at *
        clear h1 b1 hl hj HDEF HNO hn hm hxj hdf hFF
        go_enter Tryd.func28, Tryd.ntmps28
        go_wp2_with fail
        refine HG.out.mono ?_
        rintro e w4 ⟨rfl, k4⟩
        generalize ((w.alloc (.cells #[.slice (some ⟨b, off, none⟩) n c, .slice B m d] 25)).alloc (.cells #[.slice none 0 0, .slice none 0 0] 25)) = w2 at *
        have s4 := k4.size
        replace c0 := cell_turn k4 c0 (by omega)
        replace c1 := cell_turn k4 c1 (by omega)
        replace fx0 := frozen_turn k4 fx0 (by omega)
        replace fx1 := frozen_turn k4 fx1 (by omega)
        have hR4 : KeptR w4 (w.heap.size + 1) := ⟨cell_turn k4 r0 (by omega), cell_turn k4 r1 (by omega), frozen_turn k4 f0 (by omega), frozen_turn k4 f1 (by omega)⟩
        have k04 := turn_trans HK2.out k4 (by omega)
        replace hcx0 := cell_turn k04 hcx0 hbl
        have hz4 : w.heap.size + 2 ≤ w4.heap.size := by omega
        have HL := Lib.hid (l6Own_own _ _ s w4 (HV0.out.touch k04) (HU0.out.touch k04) (by rw [← HN.out]; omega) (by rw [← HM.out]; omega))
        clear HG r0 r1 f0 f1 k4 s4
        go_wp2_with fail
        refine (HIN.out _).mono ?_
        rintro e w' ⟨rfl, rfl⟩
        go_wp2_with fail
        refine HL.out.mono ?_
        rintro e w5 ⟨d1, p1, rfl, hO, k5⟩
        obtain ⟨mid, hlmm, hmh, oD, oP⟩ := hO
        obtain ⟨gd, cp1, rfl, hg1a, hg1b, hcp1, hcm1', _, _⟩ := oD.shape (by rw [← HN.out]; exact bn.1)
        obtain ⟨gp, cp2, rfl, hg2a, hg2b, hcp2, hcm2', _, _⟩ := oP.shape (by rw [← HM.out]; exact bm.1)
        rw [← HN.out] at oD hcp1 ⊢
        rw [← HM.out] at oP hcp2 ⊢
        unfold maxLen at hcm1' hcm2'
        have s5 := k5.size
        replace c0 := cell_turn k5 c0 (by omega)
        replace c1 := cell_turn k5 c1 (by omega)
        replace fx0 := frozen_turn k5 fx0 (by omega)
        replace fx1 := frozen_turn k5 fx1 (by omega)
        have hSB := SBox.start (w := w) (B := w.heap.size) oD oP c0 c1 (by omega) hlmm hmh (k5.base k04.to_below (by omega) (by omega)) (Nat.le_refl _)
        have hR5 := ((hR4.turn k5 (by omega)).set (g := w.heap.size) (o := 0) (z := .slice (some ⟨gd, 0, none⟩) n cp1) (by omega)).set (g := w.heap.size) (o := 1) (z := .slice (some ⟨gp, 0, none⟩) m cp2) (by omega)
        have hc6 := hSB.c0
        have hc6' := hSB.c1
        obtain ⟨hcj, hfj⟩ := hSB.data.atK HN.out.symm hjn
        rw [← HXJ.out] at hcj
        have hs6 : w5.heap.size ≤ ((w5.setCell ⟨w.heap.size, 0, none⟩ (.slice (some ⟨gd, 0, none⟩) n cp1)).setCell ⟨w.heap.size, 1, none⟩ (.slice (some ⟨gp, 0, none⟩) m cp2)).heap.size := by simp
        have hs6' : ((w5.setCell ⟨w.heap.size, 0, none⟩ (.slice (some ⟨gd, 0, none⟩) n cp1)).setCell ⟨w.heap.size, 1, none⟩ (.slice (some ⟨gp, 0, none⟩) m cp2)).heap.size ≤ w5.heap.size := by simp
        have HSB := Lib.hid hSB
        have HR5 := Lib.hid hR5
        have hz5 : w.heap.size + 2 ≤ w5.heap.size := by omega
        clear hSB hR5 hR4 oD oP k04 k5 HL HIN hcx0
        go_wp2_with fail
        generalize ((w5.setCell ⟨w.heap.size, 0, none⟩ (.slice (some ⟨gd, 0, none⟩) n cp1)).setCell ⟨w.heap.size, 1, none⟩ (.slice (some ⟨gp, 0, none⟩) m cp2)) = w5b at *
        clear c0 c1 fx0 fx1
        have HLP := Lib.hid (l6Plus_own xj t 1 w5b HXL.out.symm (by rw [HXL.out]; omega))
        rw [← HDF.out] at HLP
        refine HLP.out.mono ?_
        rintro e w5c ⟨rfl, k5c⟩
        have s5c := k5c.size
        have HSB1 := Lib.hid (HSB.out.turn k5c (by omega))
        have HR51 := Lib.hid (HR5.out.turn k5c (by omega))
        have hb0 := HSB1.out.c0
        have hb1 := HSB1.out.c1
        clear HSB HR5 hc6 hc6' hcj hfj
        go_wp2_with fail
        refine (l6Matrix_own m n _ bm.1 bn.1 (by omega) bn.2).mono ?_
        rintro e w6 ⟨v6, vs6, rfl, hM6, k6⟩
        obtain ⟨bb, cpm, rfl, hbb1, hbb2, hbb3, hbb4⟩ := hM6.sliceF bm.1
        have s6 := k6.size
        have a7 := turn_alloc w6 (.cells #[.slice (some ⟨bb, 0, none⟩) m cpm] 39)
        have z7 := World.size_alloc w6 (.cells #[.slice (some ⟨bb, 0, none⟩) m cpm] 39)
        have cM := alloc_cell w6 (.slice (some ⟨bb, 0, none⟩) m cpm) 39
        have k67 := turn_trans k6 a7 (by omega)
        have HSB2 := Lib.hid (HSB1.out.turn k67 (by omega))
        rw [← halfT_zero s.2 FF] at HSB2
        have HR52 := Lib.hid (HR51.out.turn k67 (by omega))
        have HMM := Lib.hid (hM6.keep a7 (by omega))
        have hb0 := HSB2.out.c0
        have hb1 := HSB2.out.c1
        have hsz7 : w6.heap.size + 1 ≤ (w6.alloc (.cells #[.slice (some ⟨bb, 0, none⟩) m cpm] 39)).heap.size := by omega
        have h57 : w5.heap.size ≤ w6.heap.size := by omega
        unfold maxLen at hbb4
        clear HSB1 HR51 hM6 k67 a7 z7
        go_wp2_with fail
        generalize (w6.alloc (.cells #[.slice (some ⟨bb, 0, none⟩) m cpm] 39)) = w7 at *
        obtain ⟨BM, hBM⟩ : ∃ x, x = w6.heap.size := ⟨_, rfl⟩
        rw [← hBM] at cM ⊢
        have HBM := Lib.hid hBM
        have hBM1 : w5.heap.size ≤ BM := by omega
        have hBM2 : BM ≤ w6.heap.size := by omega
        have hBM3 : w5c.heap.size ≤ BM := by omega
        clear hBM
        go_loopw [53] (fun i wr => ∃ k : Nat, k ≤ m ∧ i = .int .i64 k ∧ w6.heap.size + 1 ≤ wr.heap.size ∧ wr.cell? ⟨BM, 0, none⟩ = some (.slice (some ⟨bb, 0, none⟩) m cpm) ∧ Hid (SBox 9 w wr w.heap.size w4.heap.size mid w5.heap.size (.slice (some ⟨gd, 0, none⟩) n cp1) (.slice (some ⟨gp, 0, none⟩) m cp2) s.1 (halfT s.2 FF k)) ∧ Hid (OwnM 5 22 wr w5c.heap.size w6.heap.size (.slice (some ⟨bb, 0, none⟩) m cpm) (mkM m n prmF) vs6) ∧ Hid (KeptR wr (w.heap.size + 1))) (fun i _ => m - (intOf i).toNat)
        case atStart => exact ⟨0, Nat.zero_le _, rfl, hsz7, cM, HSB2, HMM, HR52⟩
        case round =>
          obtain ⟨k, hk, rfl, hszr, hcm0, HSR, HMR, HRR⟩ := hrel
          clear HSB2 HMM HR52 hb0 hb1 cM hsz7
          by_cases hlt : k < m
          · have hki : (k : Int) < (m : Int) := by omega
            have hbx := HSR.out.c1
            have hka : k < s.2.length := by rw [← HM.out]; exact hlt
            obtain ⟨hcx, hfr⟩ := HSR.out.par.atK (by rw [halfT_length, ← HM.out]) hlt
            rw [halfT_get _ _ _ hka] at hcx
            obtain ⟨br, cpr, hur, e1, e2, e3, e4, e5, hfz, hcellr⟩ := HMR.out.rowF k hlt bn.1
            have hcm1 := HMR.out.cellAt hur
            have hcm2 := hcellr j hjn
            have HLX : Hid (df.length = (s.2.getD k []).length ∧ (s.2.getD k []).length ≤ 1000) := Lib.hid (by rw [HDL.out, HLEN.out k hka]; omega)
            have HFX : Hid (FF k = plusL (s.2.getD k []) (prmF k j) df) := Lib.hid (by rw [HFF.out])
            have HNX := Lib.hid (halfT_next s.2 FF k)
            generalize s.2.getD k [] = x at *
            have hgg := (HSR.out.par.1.lt gp rfl).1
            have hgh := HSR.out.par.2.2 gp rfl
            have h1b := HSR.out.hB
            have h2b := HSR.out.hlm
            have h3b := HSR.out.hmh
            have hbbr := HMR.out.out bb rfl
            have hbb0 := (HMR.out.row.lt bb rfl).1
            unfold maxLen at e5
            clear hcellr hfz e3
            go_wp2_with fail
            have hS : (fun W : World => W.cell? ⟨w.heap.size, 1, none⟩ = some (.slice (some ⟨gp, 0, none⟩) m cp2) ∧ W.cell? ⟨gp, k, none⟩ = some (.string (str x)) ∧ W.cell? ⟨BM, 0, none⟩ = some (.slice (some ⟨bb, 0, none⟩) m cpm) ∧ W.cell? ⟨bb, k, none⟩ = some (.slice (some ⟨br, 0, none⟩) n cpr) ∧ W.cell? ⟨br, j, none⟩ = some (.int .u8 ((prmF k j).toNat : Int))) wr.drew := ⟨hbx, hcx, hcm0, hcm1, hcm2⟩
            refine wp_region_tail (fun W : World => W.cell? ⟨w.heap.size, 1, none⟩ = some (.slice (some ⟨gp, 0, none⟩) m cp2) ∧ W.cell? ⟨gp, k, none⟩ = some (.string (str x)) ∧ W.cell? ⟨BM, 0, none⟩ = some (.slice (some ⟨bb, 0, none⟩) m cpm) ∧ W.cell? ⟨bb, k, none⟩ = some (.slice (some ⟨br, 0, none⟩) n cpr) ∧ W.cell? ⟨br, j, none⟩ = some (.int .u8 ((prmF k j).toNat : Int))) 19 (by kernel_rfl) ?_
            refine wpAnyT_take (i := 0) (oi := _) (v := ?v0) rfl (by kernel_rfl) (by kernel_rfl) (by kernel_rfl) (by kernel_rfl) (fun _ _ _ h => h) (Or.inl ⟨by rfl, ?hy0⟩) hS ?rest0
            case hy0 => (intro W hW; obtain ⟨e1, e2, e3, e4, e5⟩ := hW; go_simp; try with_reducible rfl)
            simp only [Act.put, List.setIfInBounds_toArray, List.set_cons_zero, List.set_cons_succ]
            refine wpAnyT_take (i := 1) (oi := _) (v := ?v1) rfl (by kernel_rfl) (by kernel_rfl) (by kernel_rfl) (by kernel_rfl) (fun _ _ _ h => h) (Or.inl ⟨by rfl, ?hy1⟩) hS ?rest1
            case hy1 => (intro W hW; obtain ⟨e1, e2, e3, e4, e5⟩ := hW; go_simp; try with_reducible rfl)
            simp only [Act.put, List.setIfInBounds_toArray, List.set_cons_zero, List.set_cons_succ]
            refine wpAnyT_take (i := 2) (oi := _) (v := ?v2) rfl (by kernel_rfl) (by kernel_rfl) (by kernel_rfl) (by kernel_rfl) (fun _ _ _ h => h) (Or.inl ⟨by rfl, ?hy2⟩) hS ?rest2
            case hy2 => (intro W hW; obtain ⟨e1, e2, e3, e4, e5⟩ := hW; go_simp; try with_reducible rfl)
            simp only [Act.put, List.setIfInBounds_toArray, List.set_cons_zero, List.set_cons_succ]
            refine wpAnyT_take (i := 3) (oi := _) (v := ?v3) rfl (by kernel_rfl) (by kernel_rfl) (by kernel_rfl) (by kernel_rfl) (fun _ _ _ h => h) (Or.inl ⟨by rfl, ?hy3⟩) hS ?rest3
            case hy3 => (intro W hW; obtain ⟨e1, e2, e3, e4, e5⟩ := hW; go_simp; try with_reducible rfl)
            simp only [Act.put, List.setIfInBounds_toArray, List.set_cons_zero, List.set_cons_succ]
            refine wpAnyT_take (i := 4) (oi := _) (v := ?v4) rfl (by kernel_rfl) (by kernel_rfl) (by kernel_rfl) (by kernel_rfl) (fun _ _ _ h => h) (Or.inl ⟨by rfl, ?hy4⟩) hS ?rest4
            case hy4 => (intro W hW; obtain ⟨e1, e2, e3, e4, e5⟩ := hW; go_simp; try with_reducible rfl)
            simp only [Act.put, List.setIfInBounds_toArray, List.set_cons_zero, List.set_cons_succ]
            refine wpAnyT_take (i := 5) (oi := _) (v := ?v5) rfl (by kernel_rfl) (by kernel_rfl) (by kernel_rfl) (by kernel_rfl) (fun _ _ _ h => h) (Or.inl ⟨by rfl, ?hy5⟩) hS ?rest5
            case hy5 => (intro W hW; obtain ⟨e1, e2, e3, e4, e5⟩ := hW; go_simp; try with_reducible rfl)
            simp only [Act.put, List.setIfInBounds_toArray, List.set_cons_zero, List.set_cons_succ]
            refine wpAnyT_take (i := 6) (oi := _) (v := ?v6) rfl (by kernel_rfl) (by kernel_rfl) (by kernel_rfl) (by kernel_rfl) (fun _ _ _ h => h) (Or.inl ⟨by rfl, ?hy6⟩) hS ?rest6
            case hy6 => (intro W hW; obtain ⟨e1, e2, e3, e4, e5⟩ := hW; go_simp; try with_reducible rfl)
            simp only [Act.put, List.setIfInBounds_toArray, List.set_cons_zero, List.set_cons_succ]
            refine wpAnyT_take (i := 7) (oi := _) (v := ?v7) rfl (by kernel_rfl) (by kernel_rfl) (by kernel_rfl) (by kernel_rfl) (fun _ _ _ h => h) (Or.inl ⟨by rfl, ?hy7⟩) hS ?rest7
            case hy7 => (intro W hW; obtain ⟨e1, e2, e3, e4, e5⟩ := hW; go_simp; try with_reducible rfl)
            simp only [Act.put, List.setIfInBounds_toArray, List.set_cons_zero, List.set_cons_succ]
            refine wpAnyT_take (i := 8) (oi := _) (v := ?v8) rfl (by kernel_rfl) (by kernel_rfl) (by kernel_rfl) (by kernel_rfl) (fun _ _ _ h => h) (Or.inl ⟨by rfl, ?hy8⟩) hS ?rest8
            case hy8 => (intro W hW; obtain ⟨e1, e2, e3, e4, e5⟩ := hW; go_simp; try with_reducible rfl)
            simp only [Act.put, List.setIfInBounds_toArray, List.set_cons_zero, List.set_cons_succ]
            refine wpAnyT_take (i := 9) (oi := _) (v := ?v9) rfl (by kernel_rfl) (by kernel_rfl) (by kernel_rfl) (by kernel_rfl) (fun _ _ _ h => h) (Or.inl ⟨by rfl, ?hy9⟩) hS ?rest9
            case hy9 => (intro W hW; obtain ⟨e1, e2, e3, e4, e5⟩ := hW; go_simp; try with_reducible rfl)
            simp only [Act.put, List.setIfInBounds_toArray, List.set_cons_zero, List.set_cons_succ]
            refine wpAnyT_take (i := 10) (oi := _) (v := ?v10) rfl (by kernel_rfl) (by kernel_rfl) (by kernel_rfl) (by kernel_rfl) (fun _ _ _ h => h) (Or.inl ⟨by rfl, ?hy10⟩) hS ?rest10
            case hy10 => (intro W hW; obtain ⟨e1, e2, e3, e4, e5⟩ := hW; go_simp; try with_reducible rfl)
            simp only [Act.put, List.setIfInBounds_toArray, List.set_cons_zero, List.set_cons_succ]
            refine wpAnyT_take (i := 11) (oi := _) (v := ?v11) rfl (by kernel_rfl) (by kernel_rfl) (by kernel_rfl) (by kernel_rfl) (fun _ _ _ h => h) (Or.inl ⟨by rfl, ?hy11⟩) hS ?rest11
            case hy11 => (intro W hW; obtain ⟨e1, e2, e3, e4, e5⟩ := hW; go_simp; try with_reducible rfl)
            simp only [Act.put, List.setIfInBounds_toArray, List.set_cons_zero, List.set_cons_succ]
            refine wpAnyT_take (i := 12) (oi := _) (v := ?v12) rfl (by kernel_rfl) (by kernel_rfl) (by kernel_rfl) (by kernel_rfl) (fun _ _ _ h => h) (Or.inl ⟨by rfl, ?hy12⟩) hS ?rest12
            case hy12 => (intro W hW; obtain ⟨e1, e2, e3, e4, e5⟩ := hW; go_simp; try with_reducible rfl)
            simp only [Act.put, List.setIfInBounds_toArray, List.set_cons_zero, List.set_cons_succ]
            refine wpAnyT_take (i := 13) (oi := _) (v := ?v13) rfl (by kernel_rfl) (by kernel_rfl) (by kernel_rfl) (by kernel_rfl) (fun _ _ _ h => h) (Or.inl ⟨by rfl, ?hy13⟩) hS ?rest13
            case hy13 => (intro W hW; obtain ⟨e1, e2, e3, e4, e5⟩ := hW; go_simp; try with_reducible rfl)
            simp only [Act.put, List.setIfInBounds_toArray, List.set_cons_zero, List.set_cons_succ]
            refine wpAnyT_take (i := 14) (oi := _) (v := ?v14) rfl (by kernel_rfl) (by kernel_rfl) (by kernel_rfl) (by kernel_rfl) (fun _ _ _ h => h) (Or.inl ⟨by rfl, ?hy14⟩) hS ?rest14
            case hy14 => (intro W hW; obtain ⟨e1, e2, e3, e4, e5⟩ := hW; go_simp; try with_reducible rfl)
            simp only [Act.put, List.setIfInBounds_toArray, List.set_cons_zero, List.set_cons_succ]
            refine wpAnyT_take (i := 15) (oi := _) (v := ?v15) rfl (by kernel_rfl) (by kernel_rfl) (by kernel_rfl) (by kernel_rfl) (fun _ _ _ h => h) (Or.inl ⟨by rfl, ?hy15⟩) hS ?rest15
            case hy15 => (intro W hW; obtain ⟨e1, e2, e3, e4, e5⟩ := hW; go_simp; try with_reducible rfl)
            simp only [Act.put, List.setIfInBounds_toArray, List.set_cons_zero, List.set_cons_succ]
            refine wpAnyT_take (i := 16) (oi := _) (v := ?v16) rfl (by kernel_rfl) (by kernel_rfl) (by kernel_rfl) (by kernel_rfl) (fun _ _ _ h => h) (Or.inl ⟨by rfl, ?hy16⟩) hS ?rest16
            case hy16 => (intro W hW; obtain ⟨e1, e2, e3, e4, e5⟩ := hW; go_simp; try with_reducible rfl)
            simp only [Act.put, List.setIfInBounds_toArray, List.set_cons_zero, List.set_cons_succ]
            refine wpAnyT_one (i := 17) (o := _) rfl (by kernel_rfl) (fun K hK => ?_)
            go_simp
            refine (l6Plus_own x df (prmF k j) _ HLX.out.1 HLX.out.2).mono ?_
            rintro e w7 ⟨rfl, k7'⟩
            have k7 := undrew k7'
            have s7 := k7.size
            have t0 := cell_turn k7 hbx (by omega)
            have t1 := cell_turn k7 hcx (by omega)
            have t2 := cell_turn k7 hcm0 (by omega)
            have t3 := cell_turn k7 hcm1 (by omega)
            have t4 := cell_turn k7 hcm2 (by omega)
            have t5 := frozen_turn k7 hfr (by omega)
            refine hK.out _ _ (fun _ => ⟨t0, t1, t2, t3, t4⟩) ?_
            clear hK K hS
            try simp only [Act.put, List.setIfInBounds_toArray, List.set_cons_zero, List.set_cons_succ]
            refine wpAnyT_one (i := 18) (o := _) rfl (by kernel_rfl) (fun K hK => ?_)
            go_simp
            refine hK.out _ _ (fun _ => ⟨t0, t1, t2, t3, t4⟩) ?_
            clear hK K
            try simp only [Act.put, List.setIfInBounds_toArray, List.set_cons_zero, List.set_cons_succ]
            refine wpAnyT_one (i := 19) (o := _) rfl (by kernel_rfl) (fun K hK => ?_)
            go_simp
            refine hK.out _ _ (fun h => absurd rfl h) ?_
            clear hK K
            try simp only [Act.put, List.setIfInBounds_toArray, List.set_cons_zero, List.set_cons_succ]
            refine wpAnyT_done (by kernel_rfl) ?_ _
            have HS8 : Hid (SBox 9 w (w7.setCell ⟨gp, k, none⟩ (.string (str (plusL x (prmF k j) df)))) w.heap.size w4.heap.size mid w5.heap.size (.slice (some ⟨gd, 0, none⟩) n cp1) (.slice (some ⟨gp, 0, none⟩) m cp2) s.1 (halfT s.2 FF (k + 1))) := Lib.hid ((HSR.out.turn k7 (by omega)).storeP (by rw [halfT_length, ← HM.out]) (by rw [← HFX.out]; exact HNX.out) (by omega))
            have HM8 := Lib.hid (HMR.out.keep k7 (by omega))
            have HM9 := Lib.hid (HM8.out.keep (turn_setCell w7 gp k (.string (str (plusL x (prmF k j) df)))) (by omega))
            have hc8 := (cell_set_other w7 (B := gp) (B' := BM) k 0 (.string (str (plusL x (prmF k j) df))) (by omega)).trans t2
            have HR8 : Hid (KeptR (w7.setCell ⟨gp, k, none⟩ (.string (str (plusL x (prmF k j) df)))) (w.heap.size + 1)) := Lib.hid ((HRR.out.turn k7 (by omega)).set (by omega))
            have hs8 : w6.heap.size + 1 ≤ (w7.setCell ⟨gp, k, none⟩ (.string (str (plusL x (prmF k j) df)))).heap.size := by have e : (w7.setCell ⟨gp, k, none⟩ (.string (str (plusL x (prmF k j) df)))).heap.size = w7.heap.size := (by simp); omega
            clear t0 t1 t2 t3 t4 t5 k7 k7' hcx hfr hbx hcm0 hcm1 hcm2 HM8
            go_wp2_with fail
            go_roundw
            case rel => exact ⟨k + 1, by omega, by go_num, hs8, hc8, HS8, HM9, HR8⟩
            case measure => simp [intOf]; omega
          · obtain rfl : m = k := by omega
            have hki : ¬ (m : Int) < (m : Int) := by omega
            have HEND : Hid (halfT s.2 FF m = textsF m FF) := Lib.hid (by rw [HM.out, halfT_all])
            rw [HEND.out] at HSR
            have hcz := HSR.out.c0
            have hcz' := HSR.out.c1
            obtain ⟨hcj, hfj⟩ := HSR.out.data.atK HN.out.symm hjn
            have hgg := (HSR.out.data.1.lt gd rfl).1
            have hgh := HSR.out.data.2.2 gd rfl
            have h1b := HSR.out.hB
            have HS9 := Lib.hid (HSR.out.storeD (q := j) (x := t) HN.out.symm rfl (by omega))
            obtain ⟨q0, q1, g0, g1'⟩ := HRR.out.set (g := gd) (o := j) (z := .string (str t)) (by omega)
            have hd0 := HS9.out.c0
            have hd1 := HS9.out.c1
            have HF := Lib.hid (duo_store (R := w.heap.size + 1) HS9.out.own HS9.out.old (by omega) (by omega) (by omega))
            clear HSR HRR HMR hcm0
            go_wp2_with fail
            refine bodyPost_ret (v := .tuple #[.agg #[(.slice (some ⟨gd, 0, none⟩) n cp1), (.slice (some ⟨gp, 0, none⟩) m cp2)], .bool true]) (by simp [results, Tryd.results28, go_sem, q0, q1, g0, g1']) rfl ?_
            exact ⟨_, _, rfl, HF.out.1, HF.out.2⟩
      · have HO : Hid (chgOk s j t = false) := Lib.hid (by rw [HDEF.out]; simp [hl])
        have hne : ((t.length : Int) != (firstLen s : Int)) = true := by simp; omega
        rw [HO.out, HNO.out HO.out]
        generalize firstLen s = lf at *
        generalize t.length = lt at *
        clear h1 b1 hl HDEF HNO
        go_enter Tryd.func28, Tryd.ntmps28
        go_wp2_with fail
        refine HG.out.mono ?_
        rintro e w3 ⟨rfl, k3⟩
        have s3 := k3.size
        replace c0 := cell_turn k3 c0 (by omega)
        replace c1 := cell_turn k3 c1 (by omega)
        replace r0 := cell_turn k3 r0 (by omega)
        replace r1 := cell_turn k3 r1 (by omega)
        replace f0 := frozen_turn k3 f0 (by omega)
        replace f1 := frozen_turn k3 f1 (by omega)
        replace hcx0 := cell_turn (turn_trans HK2.out k3 (by omega)) hcx0 hbl
        have HF := Lib.hid (duo_store (R := w.heap.size + 1) (OwnT.nil 9 w3 (w.heap.size + 2) (by omega)) (turn_trans HK2.out k3 (by omega)).to_below (by omega) (by omega) (by omega))
        go_wp2_with fail
        refine (HIN.out _).mono ?_
        rintro e w' ⟨rfl, rfl⟩
        go_wp2_with fail
        refine bodyPost_ret (v := .tuple #[.agg #[.slice none 0 0, .slice none 0 0], .bool false]) (by simp [results, Tryd.results28, go_sem, r0, r1, f0, f1]) rfl ?_
        exact ⟨_, _, rfl, HF.out.1, HF.out.2⟩
    · have HIN : Hid (∀ W, Calls Tryd.prog 73 #[.int .i64 i, .int .i64 0, .int .i64 ((s.1.length : Int) - 1)] W fun e w' => e = .returned (.bool false) ∧ W = w') := Lib.hid (fun W => (show decide (0 ≤ i ∧ i ≤ (s.1.length : Int) - 1) = false by simp; omega) ▸ HINA.out W)
      have HO : Hid (chgOk s i t = false) := Lib.hid (by rw [HDEF.out]; simp [hi])
      rw [HO.out, HNO.out HO.out]
      clear h1 b1 hi HDEF HNO HINA
      go_enter Tryd.func28, Tryd.ntmps28
      go_wp2_with fail
      refine HG.out.mono ?_
      rintro e w3 ⟨rfl, k3⟩
      have s3 := k3.size
      replace c0 := cell_turn k3 c0 (by omega)
      replace c1 := cell_turn k3 c1 (by omega)
      replace r0 := cell_turn k3 r0 (by omega)
      replace r1 := cell_turn k3 r1 (by omega)
      replace f0 := frozen_turn k3 f0 (by omega)
      replace f1 := frozen_turn k3 f1 (by omega)
      have HF := Lib.hid (duo_store (R := w.heap.size + 1) (OwnT.nil 9 w3 (w.heap.size + 2) (by omega)) (turn_trans HK2.out k3 (by omega)).to_below (by omega) (by omega) (by omega))
      go_wp2_with fail
      refine (HIN.out _).mono ?_
      rintro e w' ⟨rfl, rfl⟩
      go_wp2_with fail
      refine bodyPost_ret (v := .tuple #[.agg #[.slice none 0 0, .slice none 0 0], .bool false]) (by simp [results, Tryd.results28, go_sem, r0, r1, f0, f1]) rfl ?_
      exact ⟨_, _, rfl, HF.out.1, HF.out.2⟩
  · have H1 : Hid (strpOk s = false) := Lib.hid (by simpa using h1)
    have HO : Hid (chgOk s i t = false) := Lib.hid (by rw [HDEF.out, H1.out]; simp)
    rw [H1.out] at HG
    rw [HO.out, HNO.out HO.out]
    clear h1 HDEF HNO
    go_enter Tryd.func28, Tryd.ntmps28
    go_wp2_with fail
    refine HG.out.mono ?_
    rintro e w3 ⟨rfl, k3⟩
    have s3 := k3.size
    replace c0 := cell_turn k3 c0 (by omega)
    replace c1 := cell_turn k3 c1 (by omega)
    replace r0 := cell_turn k3 r0 (by omega)
    replace r1 := cell_turn k3 r1 (by omega)
    replace f0 := frozen_turn k3 f0 (by omega)
    replace f1 := frozen_turn k3 f1 (by omega)
    have HF := Lib.hid (duo_store (R := w.heap.size + 1) (OwnT.nil 9 w3 (w.heap.size + 2) (by omega)) (turn_trans HK2.out k3 (by omega)).to_below (by omega) (by omega) (by omega))
    go_wp2_with fail
    refine bodyPost_ret (v := .tuple #[.agg #[.slice none 0 0, .slice none 0 0], .bool false]) (by simp [results, Tryd.results28, go_sem, r0, r1, f0, f1]) rfl ?_
    exact ⟨_, _, rfl, HF.out.1, HF.out.2⟩

end Go.Proofs.YtbopocpmodpfcaaDoor
