/- Joined texts: ChgMath, Add1, Add2, Chg2, Cur7. -/
import Derived.Test.YtjgmegfbfjmnfaaDoorBd16
import Derived.Deep.QuietTactic
import Derived.BigQuiet
import Derived.Deep.RegionHeld3
import Derived.Test.YtjgmegfbfjmnfaaDoorBd11
import Derived.Test.YtjgmegfbfjmnfaaDoorBd07
import Derived.Test.YtjgmegfbfjmnfaaDoorBd14
set_option linter.unusedSimpArgs false
set_option linter.unusedVariables false
/- ChangeStripe: what is changed. -/
namespace G294
open Go Go.RowKit
def chgOk (s : Strp) (i : Int) (t : List UInt8) : Bool := strpOk s && (decide (0 ≤ i ∧ i < (s.1.length : Int)) && decide (t.length = firstLen s))
def chgS (s : Strp) (i : Nat) (t : List UInt8) : Strp := (s.1.set i t, textsF s.2.length fun k => plusL (s.2.getD k []) (prmF k i) (plusL (s.1.getD i []) 1 t))
def chgR (s : Strp) (i : Int) (t : List UInt8) : Strp := if chgOk s i t = true then chgS s i.toNat t else ([], [])
theorem chgR_no {s : Strp} {i : Int} {t : List UInt8} (h : chgOk s i t = false) : chgR s i t = ([], []) := if_neg (by rw [h]; simp)
theorem chgR_yes {s : Strp} {i : Nat} {t : List UInt8} (h : chgOk s i t = true) : chgR s i t = chgS s i t := by unfold chgR; rw [if_pos h]; simp
theorem chgOk_b {s : Strp} {i : Int} {t : List UInt8} (h : chgOk s i t = true) : strpOk s = true ∧ (0 ≤ i ∧ i < (s.1.length : Int)) ∧ t.length = firstLen s := by
  simpa [chgOk] using h
theorem chgR_len (s : Strp) (i : Int) (t : List UInt8) : (chgR s i t).1.length + (chgR s i t).2.length ≤ 20 := by
  unfold chgR; split
  · rename_i h
    have := strpOk_b (chgOk_b h).1
    simp only [chgS, List.length_set, textsF_length]; omega
  · simp
end G294

/- sameShape, the program's. -/
namespace Go.Proofs.YtjgmegfbfjmnfaaDoor
open Go.RowKit G294

set_option maxRecDepth 100000 in
set_option maxHeartbeats 4000000 in
theorem sameShape_any (v u v2 u2 : Value) (a q : Strp) (w : World) (hv : Seen w v (strs a.1)) (hu : Seen w u (strs a.2)) (hv2 : Seen w v2 (strs q.1)) (hu2 : Seen w u2 (strs q.2)) :
    Calls Tryd.prog 42 #[.agg #[v, u], .agg #[v2, u2]] w (RetBool w (sadOk a q)) := by
  have HV := Lib.hid hv
  have HU := Lib.hid hu
  have HV2 := Lib.hid hv2
  have HU2 := Lib.hid hu2
  have HDEF : Hid (sadOk a q = (strpOk a && (strpOk q && (decide (a.1.length = q.1.length) && (decide (a.2.length = q.2.length) && decide (firstLen a = firstLen q)))))) := Lib.hid rfl
  by_cases h1 : strpOk a = true
  · have HA := Lib.hid h1
    have b1 := strpOk_b h1
    by_cases h2 : strpOk q = true
    · have HQ := Lib.hid h2
      have b2 := strpOk_b h2
      obtain ⟨b, off, c, rfl, hbl, hlm, hcx⟩ := seen_at hv (show 0 < a.1.length by omega)
      obtain ⟨b', off', c2, rfl, hbl', hlm', hcy⟩ := seen_at hv2 (show 0 < q.1.length by omega)
      rw [Nat.add_zero] at hcx hcy
      obtain ⟨B, d, huu⟩ := hu.len
      obtain ⟨B2, d2, huu2⟩ := hu2.len
      rw [strs_length] at huu huu2
      subst huu huu2
      have g1 : 0 < a.1.length := b1.1.1
      have g2 : 0 < q.1.length := b2.1.1
      obtain ⟨x, hx⟩ : ∃ x, x = a.1.getD 0 [] := ⟨_, rfl⟩
      obtain ⟨y, hy⟩ : ∃ y, y = q.1.getD 0 [] := ⟨_, rfl⟩
      have HX : Hid (firstLen a = x.length) := Lib.hid (by rw [hx]; rfl)
      have HY : Hid (firstLen q = y.length) := Lib.hid (by rw [hy]; rfl)
      rw [← hx] at hcx
      rw [← hy] at hcy
      have hsx := str_size x
      have hsy := str_size y
      clear hx hy b1 b2 hv hu hv2 hu2
      generalize x.length = lx at *
      generalize y.length = ly at *
      by_cases h3 : a.1.length = q.1.length
      · by_cases h4 : a.2.length = q.2.length
        · by_cases h5 : lx = ly
          · have HO : Hid (sadOk a q = true) := Lib.hid (by rw [HDEF.out, h1, h2, HX.out, HY.out]; simp [h3, h4, h5])
            have t1 : ((a.1.length : Int) == (q.1.length : Int)) = true := by simp [h3]
            have t2 : ((a.2.length : Int) == (q.2.length : Int)) = true := by simp [h4]
            have t3 : ((lx : Int) == (ly : Int)) = true := by simp [h5]
            clear h1 h2 h3 h4 h5 HX HY
            clear HDEF
            generalize a.1.length = n at *
            generalize a.2.length = m at *
            generalize q.1.length = n2 at *
            generalize q.2.length = m2 at *
            have a1 := turn_alloc w (.cells #[.slice (some ⟨b, off, none⟩) n c, .slice B m d] 25)
            have a2 := turn_alloc (w.alloc (.cells #[.slice (some ⟨b, off, none⟩) n c, .slice B m d] 25)) (.cells #[.slice (some ⟨b', off', none⟩) n2 c2, .slice B2 m2 d2] 25)
            have z2 : ((w.alloc (.cells #[.slice (some ⟨b, off, none⟩) n c, .slice B m d] 25)).alloc (.cells #[.slice (some ⟨b', off', none⟩) n2 c2, .slice B2 m2 d2] 25)).heap.size = w.heap.size + 2 := by simp
            have x0 := cell_turn a2 (alloc_duo0 w (.slice (some ⟨b, off, none⟩) n c) (.slice B m d) 25) (alloc_lt _ _)
            have x1 := cell_turn a2 (alloc_duo1 w (.slice (some ⟨b, off, none⟩) n c) (.slice B m d) 25) (alloc_lt _ _)
            have y0 := alloc_duo0 (w.alloc (.cells #[.slice (some ⟨b, off, none⟩) n c, .slice B m d] 25)) (.slice (some ⟨b', off', none⟩) n2 c2) (.slice B2 m2 d2) 25
            have y1 := alloc_duo1 (w.alloc (.cells #[.slice (some ⟨b, off, none⟩) n c, .slice B m d] 25)) (.slice (some ⟨b', off', none⟩) n2 c2) (.slice B2 m2 d2) 25
            rw [World.size_alloc] at y0 y1
            have k2 := turn_trans a1 a2 (by omega)
            go_enter Tryd.func42, Tryd.ntmps42
            go_wp2_with fail
            generalize ((w.alloc (.cells #[.slice (some ⟨b, off, none⟩) n c, .slice B m d] 25)).alloc (.cells #[.slice (some ⟨b', off', none⟩) n2 c2, .slice B2 m2 d2] 25)) = w1 at *
            have e0 := grew_cell x0 (by omega)
            have e1 := grew_cell x1 (by omega)
            have e2 := grew_cell y0 (by omega)
            have e3 := grew_cell y1 (by omega)
            have HG1 := Lib.hid (fun p : Grew w1 => grew_bool (goodStripe_any _ _ a p.at_ ((HV.out.touch k2).below p.old) ((HU.out.touch k2).below p.old)))
            have HG2 := Lib.hid (fun p : Grew w1 => grew_bool (goodStripe_any _ _ q p.at_ ((HV2.out.touch k2).below p.old) ((HU2.out.touch k2).below p.old)))
            rw [HA.out] at HG1
            rw [HQ.out] at HG2
            have e4 := grew_cell (cell_turn k2 hcx hbl) (Nat.lt_of_lt_of_le hbl k2.size)
            have e5 := grew_cell (cell_turn k2 hcy hbl') (Nat.lt_of_lt_of_le hbl' k2.size)
            have K2 := Lib.hid k2
            clear x0 x1 y0 y1 z2 k2 a1 a2
            refine wp_region_grew (by kernel_rfl) (by kernel_rfl) ?_
            repeat (first | go_big_quiet_skip | quiet_step ((go_at_call 13; first | with_reducible exact HG1.out _ | exact HG2.out _)))
            refine wpQuiet_nil ?_
            rintro _ ⟨p, rfl⟩
            go_wp2_with fail
            go_ret
            exact ⟨by rw [HO.out]; rfl, turn_of_below K2.out.to_below (TurnIn.of_below p.old)⟩
          · have HO : Hid (sadOk a q = false) := Lib.hid (by rw [HDEF.out, HX.out, HY.out]; simp [h5])
            have t1 : ((a.1.length : Int) == (q.1.length : Int)) = true := by simp [h3]
            have t2 : ((a.2.length : Int) == (q.2.length : Int)) = true := by simp [h4]
            have t3 : ((lx : Int) == (ly : Int)) = false := by simp; omega
            clear h1 h2 h3 h4 h5 HX HY
            clear HDEF
            generalize a.1.length = n at *
            generalize a.2.length = m at *
            generalize q.1.length = n2 at *
            generalize q.2.length = m2 at *
            have a1 := turn_alloc w (.cells #[.slice (some ⟨b, off, none⟩) n c, .slice B m d] 25)
            have a2 := turn_alloc (w.alloc (.cells #[.slice (some ⟨b, off, none⟩) n c, .slice B m d] 25)) (.cells #[.slice (some ⟨b', off', none⟩) n2 c2, .slice B2 m2 d2] 25)
            have z2 : ((w.alloc (.cells #[.slice (some ⟨b, off, none⟩) n c, .slice B m d] 25)).alloc (.cells #[.slice (some ⟨b', off', none⟩) n2 c2, .slice B2 m2 d2] 25)).heap.size = w.heap.size + 2 := by simp
            have x0 := cell_turn a2 (alloc_duo0 w (.slice (some ⟨b, off, none⟩) n c) (.slice B m d) 25) (alloc_lt _ _)
            have x1 := cell_turn a2 (alloc_duo1 w (.slice (some ⟨b, off, none⟩) n c) (.slice B m d) 25) (alloc_lt _ _)
            have y0 := alloc_duo0 (w.alloc (.cells #[.slice (some ⟨b, off, none⟩) n c, .slice B m d] 25)) (.slice (some ⟨b', off', none⟩) n2 c2) (.slice B2 m2 d2) 25
            have y1 := alloc_duo1 (w.alloc (.cells #[.slice (some ⟨b, off, none⟩) n c, .slice B m d] 25)) (.slice (some ⟨b', off', none⟩) n2 c2) (.slice B2 m2 d2) 25
            rw [World.size_alloc] at y0 y1
            have k2 := turn_trans a1 a2 (by omega)
            go_enter Tryd.func42, Tryd.ntmps42
            go_wp2_with fail
            generalize ((w.alloc (.cells #[.slice (some ⟨b, off, none⟩) n c, .slice B m d] 25)).alloc (.cells #[.slice (some ⟨b', off', none⟩) n2 c2, .slice B2 m2 d2] 25)) = w1 at *
            have e0 := grew_cell x0 (by omega)
            have e1 := grew_cell x1 (by omega)
            have e2 := grew_cell y0 (by omega)
            have e3 := grew_cell y1 (by omega)
            have HG1 := Lib.hid (fun p : Grew w1 => grew_bool (goodStripe_any _ _ a p.at_ ((HV.out.touch k2).below p.old) ((HU.out.touch k2).below p.old)))
            have HG2 := Lib.hid (fun p : Grew w1 => grew_bool (goodStripe_any _ _ q p.at_ ((HV2.out.touch k2).below p.old) ((HU2.out.touch k2).below p.old)))
            rw [HA.out] at HG1
            rw [HQ.out] at HG2
            have e4 := grew_cell (cell_turn k2 hcx hbl) (Nat.lt_of_lt_of_le hbl k2.size)
            have e5 := grew_cell (cell_turn k2 hcy hbl') (Nat.lt_of_lt_of_le hbl' k2.size)
            have K2 := Lib.hid k2
            clear x0 x1 y0 y1 z2 k2 a1 a2
            refine wp_region_grew (by kernel_rfl) (by kernel_rfl) ?_
            repeat (first | go_big_quiet_skip | quiet_step ((go_at_call 13; first | with_reducible exact HG1.out _ | exact HG2.out _)))
            refine wpQuiet_nil ?_
            rintro _ ⟨p, rfl⟩
            go_wp2_with fail
            go_ret
            exact ⟨by rw [HO.out]; rfl, turn_of_below K2.out.to_below (TurnIn.of_below p.old)⟩
        · have HO : Hid (sadOk a q = false) := Lib.hid (by rw [HDEF.out]; simp [h4])
          have t1 : ((a.1.length : Int) == (q.1.length : Int)) = true := by simp [h3]
          have t2 : ((a.2.length : Int) == (q.2.length : Int)) = false := by simp; omega
          clear h1 h2 h3 h4 HX HY
          clear HDEF
          generalize a.1.length = n at *
          generalize a.2.length = m at *
          generalize q.1.length = n2 at *
          generalize q.2.length = m2 at *
          have a1 := turn_alloc w (.cells #[.slice (some ⟨b, off, none⟩) n c, .slice B m d] 25)
          have a2 := turn_alloc (w.alloc (.cells #[.slice (some ⟨b, off, none⟩) n c, .slice B m d] 25)) (.cells #[.slice (some ⟨b', off', none⟩) n2 c2, .slice B2 m2 d2] 25)
          have z2 : ((w.alloc (.cells #[.slice (some ⟨b, off, none⟩) n c, .slice B m d] 25)).alloc (.cells #[.slice (some ⟨b', off', none⟩) n2 c2, .slice B2 m2 d2] 25)).heap.size = w.heap.size + 2 := by simp
          have x0 := cell_turn a2 (alloc_duo0 w (.slice (some ⟨b, off, none⟩) n c) (.slice B m d) 25) (alloc_lt _ _)
          have x1 := cell_turn a2 (alloc_duo1 w (.slice (some ⟨b, off, none⟩) n c) (.slice B m d) 25) (alloc_lt _ _)
          have y0 := alloc_duo0 (w.alloc (.cells #[.slice (some ⟨b, off, none⟩) n c, .slice B m d] 25)) (.slice (some ⟨b', off', none⟩) n2 c2) (.slice B2 m2 d2) 25
          have y1 := alloc_duo1 (w.alloc (.cells #[.slice (some ⟨b, off, none⟩) n c, .slice B m d] 25)) (.slice (some ⟨b', off', none⟩) n2 c2) (.slice B2 m2 d2) 25
          rw [World.size_alloc] at y0 y1
          have k2 := turn_trans a1 a2 (by omega)
          go_enter Tryd.func42, Tryd.ntmps42
          go_wp2_with fail
          generalize ((w.alloc (.cells #[.slice (some ⟨b, off, none⟩) n c, .slice B m d] 25)).alloc (.cells #[.slice (some ⟨b', off', none⟩) n2 c2, .slice B2 m2 d2] 25)) = w1 at *
          have e0 := grew_cell x0 (by omega)
          have e1 := grew_cell x1 (by omega)
          have e2 := grew_cell y0 (by omega)
          have e3 := grew_cell y1 (by omega)
          have HG1 := Lib.hid (fun p : Grew w1 => grew_bool (goodStripe_any _ _ a p.at_ ((HV.out.touch k2).below p.old) ((HU.out.touch k2).below p.old)))
          have HG2 := Lib.hid (fun p : Grew w1 => grew_bool (goodStripe_any _ _ q p.at_ ((HV2.out.touch k2).below p.old) ((HU2.out.touch k2).below p.old)))
          rw [HA.out] at HG1
          rw [HQ.out] at HG2
          have e4 := grew_cell (cell_turn k2 hcx hbl) (Nat.lt_of_lt_of_le hbl k2.size)
          have e5 := grew_cell (cell_turn k2 hcy hbl') (Nat.lt_of_lt_of_le hbl' k2.size)
          have K2 := Lib.hid k2
          clear x0 x1 y0 y1 z2 k2 a1 a2
          refine wp_region_grew (by kernel_rfl) (by kernel_rfl) ?_
          repeat (first | go_big_quiet_skip | quiet_step ((go_at_call 13; first | with_reducible exact HG1.out _ | exact HG2.out _)))
          refine wpQuiet_nil ?_
          rintro _ ⟨p, rfl⟩
          go_wp2_with fail
          go_ret
          exact ⟨by rw [HO.out]; rfl, turn_of_below K2.out.to_below (TurnIn.of_below p.old)⟩
      · have HO : Hid (sadOk a q = false) := Lib.hid (by rw [HDEF.out]; simp [h3])
        have t1 : ((a.1.length : Int) == (q.1.length : Int)) = false := by simp; omega
        clear h1 h2 h3 HX HY
        clear HDEF
        generalize a.1.length = n at *
        generalize a.2.length = m at *
        generalize q.1.length = n2 at *
        generalize q.2.length = m2 at *
        have a1 := turn_alloc w (.cells #[.slice (some ⟨b, off, none⟩) n c, .slice B m d] 25)
        have a2 := turn_alloc (w.alloc (.cells #[.slice (some ⟨b, off, none⟩) n c, .slice B m d] 25)) (.cells #[.slice (some ⟨b', off', none⟩) n2 c2, .slice B2 m2 d2] 25)
        have z2 : ((w.alloc (.cells #[.slice (some ⟨b, off, none⟩) n c, .slice B m d] 25)).alloc (.cells #[.slice (some ⟨b', off', none⟩) n2 c2, .slice B2 m2 d2] 25)).heap.size = w.heap.size + 2 := by simp
        have x0 := cell_turn a2 (alloc_duo0 w (.slice (some ⟨b, off, none⟩) n c) (.slice B m d) 25) (alloc_lt _ _)
        have x1 := cell_turn a2 (alloc_duo1 w (.slice (some ⟨b, off, none⟩) n c) (.slice B m d) 25) (alloc_lt _ _)
        have y0 := alloc_duo0 (w.alloc (.cells #[.slice (some ⟨b, off, none⟩) n c, .slice B m d] 25)) (.slice (some ⟨b', off', none⟩) n2 c2) (.slice B2 m2 d2) 25
        have y1 := alloc_duo1 (w.alloc (.cells #[.slice (some ⟨b, off, none⟩) n c, .slice B m d] 25)) (.slice (some ⟨b', off', none⟩) n2 c2) (.slice B2 m2 d2) 25
        rw [World.size_alloc] at y0 y1
        have k2 := turn_trans a1 a2 (by omega)
        go_enter Tryd.func42, Tryd.ntmps42
        go_wp2_with fail
        generalize ((w.alloc (.cells #[.slice (some ⟨b, off, none⟩) n c, .slice B m d] 25)).alloc (.cells #[.slice (some ⟨b', off', none⟩) n2 c2, .slice B2 m2 d2] 25)) = w1 at *
        have e0 := grew_cell x0 (by omega)
        have e1 := grew_cell x1 (by omega)
        have e2 := grew_cell y0 (by omega)
        have e3 := grew_cell y1 (by omega)
        have HG1 := Lib.hid (fun p : Grew w1 => grew_bool (goodStripe_any _ _ a p.at_ ((HV.out.touch k2).below p.old) ((HU.out.touch k2).below p.old)))
        have HG2 := Lib.hid (fun p : Grew w1 => grew_bool (goodStripe_any _ _ q p.at_ ((HV2.out.touch k2).below p.old) ((HU2.out.touch k2).below p.old)))
        rw [HA.out] at HG1
        rw [HQ.out] at HG2
        have e4 := grew_cell (cell_turn k2 hcx hbl) (Nat.lt_of_lt_of_le hbl k2.size)
        have e5 := grew_cell (cell_turn k2 hcy hbl') (Nat.lt_of_lt_of_le hbl' k2.size)
        have K2 := Lib.hid k2
        clear x0 x1 y0 y1 z2 k2 a1 a2
        refine wp_region_grew (by kernel_rfl) (by kernel_rfl) ?_
        repeat (first | go_big_quiet_skip | quiet_step ((go_at_call 13; first | with_reducible exact HG1.out _ | exact HG2.out _)))
        refine wpQuiet_nil ?_
        rintro _ ⟨p, rfl⟩
        go_wp2_with fail
        go_ret
        exact ⟨by rw [HO.out]; rfl, turn_of_below K2.out.to_below (TurnIn.of_below p.old)⟩
    · have HQ : Hid (strpOk q = false) := Lib.hid (by simpa using h2)
      have HO : Hid (sadOk a q = false) := Lib.hid (by rw [HDEF.out, HQ.out]; simp)
      clear h1 h2 b1
      obtain ⟨A, c, hvv⟩ := hv.len
      obtain ⟨A2, c2, hvv2⟩ := hv2.len
      rw [strs_length] at hvv hvv2
      subst hvv hvv2
      obtain ⟨B, d, huu⟩ := hu.len
      obtain ⟨B2, d2, huu2⟩ := hu2.len
      rw [strs_length] at huu huu2
      subst huu huu2
      clear hv hu hv2 hu2
      clear HDEF
      generalize a.1.length = n at *
      generalize a.2.length = m at *
      generalize q.1.length = n2 at *
      generalize q.2.length = m2 at *
      have a1 := turn_alloc w (.cells #[.slice A n c, .slice B m d] 25)
      have a2 := turn_alloc (w.alloc (.cells #[.slice A n c, .slice B m d] 25)) (.cells #[.slice A2 n2 c2, .slice B2 m2 d2] 25)
      have z2 : ((w.alloc (.cells #[.slice A n c, .slice B m d] 25)).alloc (.cells #[.slice A2 n2 c2, .slice B2 m2 d2] 25)).heap.size = w.heap.size + 2 := by simp
      have x0 := cell_turn a2 (alloc_duo0 w (.slice A n c) (.slice B m d) 25) (alloc_lt _ _)
      have x1 := cell_turn a2 (alloc_duo1 w (.slice A n c) (.slice B m d) 25) (alloc_lt _ _)
      have y0 := alloc_duo0 (w.alloc (.cells #[.slice A n c, .slice B m d] 25)) (.slice A2 n2 c2) (.slice B2 m2 d2) 25
      have y1 := alloc_duo1 (w.alloc (.cells #[.slice A n c, .slice B m d] 25)) (.slice A2 n2 c2) (.slice B2 m2 d2) 25
      rw [World.size_alloc] at y0 y1
      have k2 := turn_trans a1 a2 (by omega)
      go_enter Tryd.func42, Tryd.ntmps42
      go_wp2_with fail
      generalize ((w.alloc (.cells #[.slice A n c, .slice B m d] 25)).alloc (.cells #[.slice A2 n2 c2, .slice B2 m2 d2] 25)) = w1 at *
      have e0 := grew_cell x0 (by omega)
      have e1 := grew_cell x1 (by omega)
      have e2 := grew_cell y0 (by omega)
      have e3 := grew_cell y1 (by omega)
      have HG1 := Lib.hid (fun p : Grew w1 => grew_bool (goodStripe_any _ _ a p.at_ ((HV.out.touch k2).below p.old) ((HU.out.touch k2).below p.old)))
      have HG2 := Lib.hid (fun p : Grew w1 => grew_bool (goodStripe_any _ _ q p.at_ ((HV2.out.touch k2).below p.old) ((HU2.out.touch k2).below p.old)))
      rw [HA.out] at HG1
      rw [HQ.out] at HG2
      have K2 := Lib.hid k2
      clear x0 x1 y0 y1 z2 k2 a1 a2
      refine wp_region_grew (by kernel_rfl) (by kernel_rfl) ?_
      repeat (first | go_big_quiet_skip | quiet_step ((go_at_call 13; first | with_reducible exact HG1.out _ | exact HG2.out _)))
      refine wpQuiet_nil ?_
      rintro _ ⟨p, rfl⟩
      go_wp2_with fail
      go_ret
      exact ⟨by rw [HO.out]; rfl, turn_of_below K2.out.to_below (TurnIn.of_below p.old)⟩
  · have HA : Hid (strpOk a = false) := Lib.hid (by simpa using h1)
    have HO : Hid (sadOk a q = false) := Lib.hid (by rw [HDEF.out, HA.out]; simp)
    clear h1
    obtain ⟨A, c, hvv⟩ := hv.len
    obtain ⟨A2, c2, hvv2⟩ := hv2.len
    rw [strs_length] at hvv hvv2
    subst hvv hvv2
    obtain ⟨B, d, huu⟩ := hu.len
    obtain ⟨B2, d2, huu2⟩ := hu2.len
    rw [strs_length] at huu huu2
    subst huu huu2
    clear hv hu hv2 hu2
    clear HDEF
    generalize a.1.length = n at *
    generalize a.2.length = m at *
    generalize q.1.length = n2 at *
    generalize q.2.length = m2 at *
    have a1 := turn_alloc w (.cells #[.slice A n c, .slice B m d] 25)
    have a2 := turn_alloc (w.alloc (.cells #[.slice A n c, .slice B m d] 25)) (.cells #[.slice A2 n2 c2, .slice B2 m2 d2] 25)
    have z2 : ((w.alloc (.cells #[.slice A n c, .slice B m d] 25)).alloc (.cells #[.slice A2 n2 c2, .slice B2 m2 d2] 25)).heap.size = w.heap.size + 2 := by simp
    have x0 := cell_turn a2 (alloc_duo0 w (.slice A n c) (.slice B m d) 25) (alloc_lt _ _)
    have x1 := cell_turn a2 (alloc_duo1 w (.slice A n c) (.slice B m d) 25) (alloc_lt _ _)
    have y0 := alloc_duo0 (w.alloc (.cells #[.slice A n c, .slice B m d] 25)) (.slice A2 n2 c2) (.slice B2 m2 d2) 25
    have y1 := alloc_duo1 (w.alloc (.cells #[.slice A n c, .slice B m d] 25)) (.slice A2 n2 c2) (.slice B2 m2 d2) 25
    rw [World.size_alloc] at y0 y1
    have k2 := turn_trans a1 a2 (by omega)
    go_enter Tryd.func42, Tryd.ntmps42
    go_wp2_with fail
    generalize ((w.alloc (.cells #[.slice A n c, .slice B m d] 25)).alloc (.cells #[.slice A2 n2 c2, .slice B2 m2 d2] 25)) = w1 at *
    have e0 := grew_cell x0 (by omega)
    have e1 := grew_cell x1 (by omega)
    have e2 := grew_cell y0 (by omega)
    have e3 := grew_cell y1 (by omega)
    have HG1 := Lib.hid (fun p : Grew w1 => grew_bool (goodStripe_any _ _ a p.at_ ((HV.out.touch k2).below p.old) ((HU.out.touch k2).below p.old)))
    have HG2 := Lib.hid (fun p : Grew w1 => grew_bool (goodStripe_any _ _ q p.at_ ((HV2.out.touch k2).below p.old) ((HU2.out.touch k2).below p.old)))
    rw [HA.out] at HG1
    have K2 := Lib.hid k2
    clear x0 x1 y0 y1 z2 k2 a1 a2
    refine wp_region_grew (by kernel_rfl) (by kernel_rfl) ?_
    repeat (first | go_big_quiet_skip | quiet_step ((go_at_call 13; first | with_reducible exact HG1.out _ | exact HG2.out _)))
    refine wpQuiet_nil ?_
    rintro _ ⟨p, rfl⟩
    go_wp2_with fail
    go_ret
    exact ⟨by rw [HO.out]; rfl, turn_of_below K2.out.to_below (TurnIn.of_below p.old)⟩

end Go.Proofs.YtjgmegfbfjmnfaaDoor

/- AddStripes, the program's. -/
namespace G294
open Go Go.RowKit
/-- the cells of two boxes and of a result's box behind them, as three blocks made one behind the other -/
theorem three_boxes (w : World) (a b c d p q : Value) (T : TypeId) :
    (((w.alloc (.cells #[a, b] T)).alloc (.cells #[c, d] T)).alloc (.cells #[p, q] T)).cell? ⟨w.heap.size, 0, none⟩ = some a ∧
    (((w.alloc (.cells #[a, b] T)).alloc (.cells #[c, d] T)).alloc (.cells #[p, q] T)).cell? ⟨w.heap.size, 1, none⟩ = some b ∧
    Kept (((w.alloc (.cells #[a, b] T)).alloc (.cells #[c, d] T)).alloc (.cells #[p, q] T)) (w.heap.size + 1) (w.heap.size + 2) c d p q ∧
    (((w.alloc (.cells #[a, b] T)).alloc (.cells #[c, d] T)).alloc (.cells #[p, q] T)).heap.size = w.heap.size + 3 ∧
    TurnIn 0 0 w (((w.alloc (.cells #[a, b] T)).alloc (.cells #[c, d] T)).alloc (.cells #[p, q] T)) := by
  have a1 := turn_alloc w (.cells #[a, b] T)
  have a2 := turn_alloc (w.alloc (.cells #[a, b] T)) (.cells #[c, d] T)
  have a3 := turn_alloc ((w.alloc (.cells #[a, b] T)).alloc (.cells #[c, d] T)) (.cells #[p, q] T)
  have k23 := turn_trans a2 a3 (by omega)
  have y0 := cell_turn a3 (alloc_duo0 (w.alloc (.cells #[a, b] T)) c d T) (alloc_lt _ _)
  have y1 := cell_turn a3 (alloc_duo1 (w.alloc (.cells #[a, b] T)) c d T) (alloc_lt _ _)
  have r0 := alloc_duo0 ((w.alloc (.cells #[a, b] T)).alloc (.cells #[c, d] T)) p q T
  have r1 := alloc_duo1 ((w.alloc (.cells #[a, b] T)).alloc (.cells #[c, d] T)) p q T
  have f0 := alloc_frz ((w.alloc (.cells #[a, b] T)).alloc (.cells #[c, d] T)) #[p, q] T 0
  have f1 := alloc_frz ((w.alloc (.cells #[a, b] T)).alloc (.cells #[c, d] T)) #[p, q] T 1
  rw [World.size_alloc] at y0 y1
  rw [World.size_alloc, World.size_alloc] at r0 r1 f0 f1
  exact ⟨cell_turn k23 (alloc_duo0 w a b T) (alloc_lt _ _), cell_turn k23 (alloc_duo1 w a b T) (alloc_lt _ _), ⟨y0, y1, r0, r1, f0, f1⟩, by simp, turn_trans a1 k23 (by omega)⟩
end G294
namespace Go.Proofs.YtjgmegfbfjmnfaaDoor
open Go.RowKit G294

set_option maxRecDepth 100000 in
set_option maxHeartbeats 4000000 in
theorem addStripes_own (v u v2 u2 : Value) (a q : Strp) (w : World) (hv : Seen w v (strs a.1)) (hu : Seen w u (strs a.2)) (hv2 : Seen w v2 (strs q.1)) (hu2 : Seen w u2 (strs q.2)) (ht : Tab w) (h0 : 0 < w.heap.size) :
    Calls Tryd.prog 8 #[.agg #[v, u], .agg #[v2, u2]] w (RetTOk 9 w (sadR a q) (sadOk a q)) := by
  obtain ⟨A, c, hvv⟩ := hv.len
  obtain ⟨B, d, huu⟩ := hu.len
  obtain ⟨A2, c2, hvv2⟩ := hv2.len
  obtain ⟨B2, d2, huu2⟩ := hu2.len
  rw [strs_length] at hvv huu hvv2 huu2
  subst hvv huu hvv2 huu2
  obtain ⟨n, hn⟩ : ∃ n, n = a.1.length := ⟨_, rfl⟩
  obtain ⟨m, hm⟩ : ∃ m, m = a.2.length := ⟨_, rfl⟩
  obtain ⟨n2, hn2⟩ : ∃ n, n = q.1.length := ⟨_, rfl⟩
  obtain ⟨m2, hm2⟩ : ∃ m, m = q.2.length := ⟨_, rfl⟩
  have HN := Lib.hid hn
  have HM := Lib.hid hm
  have HN2 := Lib.hid hn2
  have HM2 := Lib.hid hm2
  rw [← hn] at hv ⊢
  rw [← hm] at hu ⊢
  rw [← hn2] at hv2 ⊢
  rw [← hm2] at hu2 ⊢
  clear hn hm hn2 hm2
  obtain ⟨x0, x1, hK, z3, k3⟩ := three_boxes w (.slice A n c) (.slice B m d) (.slice A2 n2 c2) (.slice B2 m2 d2) (.slice none 0 0) (.slice none 0 0) 25
  have HV := Lib.hid (hv.touch k3)
  have HU := Lib.hid (hu.touch k3)
  have HV2 := Lib.hid (hv2.touch k3)
  have HU2 := Lib.hid (hu2.touch k3)
  have HTT := Lib.hid ht
  have HC := Lib.hid (sameShape_any _ _ _ _ a q _ HV.out HU.out HV2.out HU2.out)
  clear hv hu hv2 hu2 ht
  obtain ⟨y0, y1, r0, r1, f0, f1⟩ := hK
  by_cases h : sadOk a q = true
  · have HO := Lib.hid h
    obtain ⟨h1, h2, h3, h4, h5⟩ := sadOk_b h
    have b1 := strpOk_b h1
    have HR : Hid (sadR a q = (textsF n fun i => plusL (a.1.getD i []) 1 (q.1.getD i []), textsF m fun i => plusL (a.2.getD i []) 1 (q.2.getD i []))) := Lib.hid (by rw [sadR_yes h, HN.out, HM.out]; rfl)
    have eg := enters_of Tryd.func43 (by kernel_rfl) rfl
    have h40 := strp_len40 h1
    have HS1 : Hid (∀ W i, Below ((((w.alloc (.cells #[.slice A n c, .slice B m d] 25)).alloc (.cells #[.slice A2 n2 c2, .slice B2 m2 d2] 25)).alloc (.cells #[.slice none 0 0, .slice none 0 0] 25))).heap.size ((((w.alloc (.cells #[.slice A n c, .slice B m d] 25)).alloc (.cells #[.slice A2 n2 c2, .slice B2 m2 d2] 25)).alloc (.cells #[.slice none 0 0, .slice none 0 0] 25))) W → i < n → Calls Tryd.prog 43 #[.agg #[.slice A n c, .slice A2 n2 c2], .int .i64 i] W (RetStr W (plusL (a.1.getD i []) 1 (q.1.getD i [])))) := Lib.hid (fun W i hb hi => by
      have hi' : i < a.1.length := by rw [← HN.out]; exact hi
      have hj' : i < q.1.length := by rw [← h3]; exact hi'
      exact sumText_own _ _ a.1 q.1 i W (HV.out.below hb) (HV2.out.below hb) hi' hj' (by rw [strp_len1 h1 hi', strp_len1 h2 hj', h5]) (by rw [strp_len1 h1 hi']; omega) (HTT.out.below ((TurnIn.of_below hb).base k3.to_below k3.size (by omega)) h0) (by have := hb.size; omega))
    have HS2 : Hid (∀ W i, Below ((((w.alloc (.cells #[.slice A n c, .slice B m d] 25)).alloc (.cells #[.slice A2 n2 c2, .slice B2 m2 d2] 25)).alloc (.cells #[.slice none 0 0, .slice none 0 0] 25))).heap.size ((((w.alloc (.cells #[.slice A n c, .slice B m d] 25)).alloc (.cells #[.slice A2 n2 c2, .slice B2 m2 d2] 25)).alloc (.cells #[.slice none 0 0, .slice none 0 0] 25))) W → i < m → Calls Tryd.prog 43 #[.agg #[.slice B m d, .slice B2 m2 d2], .int .i64 i] W (RetStr W (plusL (a.2.getD i []) 1 (q.2.getD i [])))) := Lib.hid (fun W i hb hi => by
      have hi' : i < a.2.length := by rw [← HM.out]; exact hi
      have hj' : i < q.2.length := by rw [← h4]; exact hi'
      exact sumText_own _ _ a.2 q.2 i W (HU.out.below hb) (HU2.out.below hb) hi' hj' (by rw [strp_len2 h1 hi', strp_len2 h2 hj', h5]) (by rw [strp_len2 h1 hi']; omega) (HTT.out.below ((TurnIn.of_below hb).base k3.to_below k3.size (by omega)) h0) (by have := hb.size; omega))
    have hnn : n ≤ 16 ∧ m ≤ 4 := by have e1 := HN.out; have e2 := HM.out; omega
    rw [HO.out, HR.out]
    rw [HO.out] at HC
    clear h h1 h2 h3 h4 h5 b1 h40
    go_enter Tryd.func8, Tryd.ntmps8
    go_wp2_with fail
    generalize ((((w.alloc (.cells #[.slice A n c, .slice B m d] 25)).alloc (.cells #[.slice A2 n2 c2, .slice B2 m2 d2] 25)).alloc (.cells #[.slice none 0 0, .slice none 0 0] 25))) = w3 at *
    have hz3 : w.heap.size + 3 ≤ w3.heap.size := by omega
    clear z3
    refine HC.out.mono ?_
    rintro e w4 ⟨rfl, k4⟩
    have s4 := k4.size
    replace x0 := cell_turn k4 x0 (by omega)
    replace x1 := cell_turn k4 x1 (by omega)
    replace y0 := cell_turn k4 y0 (by omega)
    replace y1 := cell_turn k4 y1 (by omega)
    replace r0 := cell_turn k4 r0 (by omega)
    replace r1 := cell_turn k4 r1 (by omega)
    replace f0 := frozen_turn k4 f0 (by omega)
    replace f1 := frozen_turn k4 f1 (by omega)
    have k34 := turn_trans k3 k4 (by omega)
    have HB4 := Lib.hid k4.to_below
    have HX : Hid (∀ W, TurnIn 0 0 w4 W → (W.cell? ⟨w.heap.size, 0, none⟩ = some (.slice A n c) ∧ W.cell? ⟨w.heap.size, 1, none⟩ = some (.slice B m d) ∧ W.cell? ⟨w.heap.size + 1, 0, none⟩ = some (.slice A2 n2 c2) ∧ W.cell? ⟨w.heap.size + 1, 1, none⟩ = some (.slice B2 m2 d2))) := Lib.hid (fun W t => ⟨cell_turn t x0 (by omega), cell_turn t x1 (by omega), cell_turn t y0 (by omega), cell_turn t y1 (by omega)⟩)
    have hX0 := HX.out w4.drew (TurnIn.of_below (Below.refl _ _).drew)
    have HA1 : Hid (TextAt Tryd.prog 43 (.agg #[.slice A n c, .slice A2 n2 c2]) n (fun i => plusL (a.1.getD i []) 1 (q.1.getD i [])) w4.drew) := Lib.hid (fun W i hb hi => HS1.out W i (HB4.out.drew.trans (hb.mono (show w3.heap.size ≤ w4.heap.size from s4))) hi)
    have HT1 := Lib.hid (textsBy_own n 43 (.agg #[.slice A n c, .slice A2 n2 c2]) (fun i => plusL (a.1.getD i []) 1 (q.1.getD i [])) w4.drew eg HA1.out (by omega))
    clear HC
    go_wp2_with fail
    go_region_held3 (fun W => W.cell? ⟨w.heap.size, 0, none⟩ = some (.slice A n c) ∧ W.cell? ⟨w.heap.size, 1, none⟩ = some (.slice B m d) ∧ W.cell? ⟨w.heap.size + 1, 0, none⟩ = some (.slice A2 n2 c2) ∧ W.cell? ⟨w.heap.size + 1, 1, none⟩ = some (.slice B2 m2 d2))
      (first | exact hX0 | exact hX5 | exact hX6 | exact ⟨(cell_set_other _ _ _ _ (by omega)).trans ((cell_set_other _ _ _ _ (by omega)).trans hX6.1), (cell_set_other _ _ _ _ (by omega)).trans ((cell_set_other _ _ _ _ (by omega)).trans hX6.2.1), (cell_set_other _ _ _ _ (by omega)).trans ((cell_set_other _ _ _ _ (by omega)).trans hX6.2.2.1), (cell_set_other _ _ _ _ (by omega)).trans ((cell_set_other _ _ _ _ (by omega)).trans hX6.2.2.2)⟩)
      (first
        | (go_at_call 37; (with_reducible refine HT1.out.mono ?_); rintro e w5 ⟨u5, rfl, o5, k5'⟩; obtain ⟨A5, n5, c5, rfl⟩ := o5.isSlice; have k5 := undrew k5'; have s5 := k5.size; have hX5 := HX.out _ k5; have HA2 : Hid (TextAt Tryd.prog 43 (.agg #[.slice B m d, .slice B2 m2 d2]) m (fun i => plusL (a.2.getD i []) 1 (q.2.getD i [])) w5) := Lib.hid (fun W i hb hi => HS2.out W i ((k5.base HB4.out s4 (by omega)).trans (hb.mono (by omega))) hi); have HT2 := Lib.hid (textsBy_own m 43 (.agg #[.slice B m d, .slice B2 m2 d2]) (fun i => plusL (a.2.getD i []) 1 (q.2.getD i [])) w5 eg HA2.out (by omega)))
        | (go_at_call 37; (with_reducible refine HT2.out.mono ?_); rintro e w6 ⟨u6, rfl, o6, k6⟩; obtain ⟨A6, n6, c6, rfl⟩ := o6.isSlice; have s6 := k6.size; have k46 := turn_trans k5 k6 (by omega); have hX6 := HX.out _ k46; have q0 := cell_turn k46 r0 (by omega); have q1 := cell_turn k46 r1 (by omega); have g0 := frozen_turn k46 f0 (by omega); have g1 := frozen_turn k46 f1 (by omega)))
    all_goals
      have hO : OwnT 9 w6 w4.heap.size w6.heap.size (.slice A5 n5 c5) (.slice A6 n6 c6) (textsF n fun i => plusL (a.1.getD i []) 1 (q.1.getD i []), textsF m fun i => plusL (a.2.getD i []) 1 (q.2.getD i [])) := ⟨w5.heap.size, by omega, by omega, o5.keep k6 (by omega), o6⟩
      have HF := Lib.hid (duo_store (R := w.heap.size + 2) hO (turn_trans k34 k46 (by omega)).to_below (by omega) (by omega) (by omega))
      clear o5 o6 hO k5 k6 k46 k5'
      go_wp2_with fail
      refine bodyPost_ret (v := .tuple #[.agg #[.slice A5 n5 c5, .slice A6 n6 c6], .bool true]) (by simp [results, Tryd.results8, go_sem, q0, q1, g0, g1]) rfl ?_
      exact ⟨_, _, rfl, HF.out.1, HF.out.2⟩
  · have HO : Hid (sadOk a q = false) := Lib.hid (by simpa using h)
    have HR := Lib.hid (sadR_no HO.out)
    rw [HO.out, HR.out]
    rw [HO.out] at HC
    clear h
    go_enter Tryd.func8, Tryd.ntmps8
    go_wp2_with fail
    generalize ((((w.alloc (.cells #[.slice A n c, .slice B m d] 25)).alloc (.cells #[.slice A2 n2 c2, .slice B2 m2 d2] 25)).alloc (.cells #[.slice none 0 0, .slice none 0 0] 25))) = w3 at *
    have hz3 : w.heap.size + 3 ≤ w3.heap.size := by omega
    clear z3
    refine HC.out.mono ?_
    rintro e w4 ⟨rfl, k4⟩
    have s4 := k4.size
    replace r0 := cell_turn k4 r0 (by omega)
    replace r1 := cell_turn k4 r1 (by omega)
    replace f0 := frozen_turn k4 f0 (by omega)
    replace f1 := frozen_turn k4 f1 (by omega)
    have HF := Lib.hid (duo_store (R := w.heap.size + 2) (OwnT.nil 9 w4 (w.heap.size + 3) (by omega)) (turn_trans k3 k4 (by omega)).to_below (by omega) (by omega) (by omega))
    go_wp2_with fail
    refine bodyPost_ret (v := .tuple #[.agg #[.slice none 0 0, .slice none 0 0], .bool false]) (by simp [results, Tryd.results8, go_sem, r0, r1, f0, f1]) rfl ?_
    exact ⟨_, _, rfl, HF.out.1, HF.out.2⟩

end Go.Proofs.YtjgmegfbfjmnfaaDoor

/- ChangeStripe, the model's. -/
namespace G294
open Go Go.RowKit
/-- the cells of a result's box, still empty, may be written -/
structure KeptR (W : World) (R : Nat) : Prop where
  r0 : W.cell? ⟨R, 0, none⟩ = some (.slice none 0 0)
  r1 : W.cell? ⟨R, 1, none⟩ = some (.slice none 0 0)
  f0 : W.frozen? ⟨R, 0, none⟩ = false
  f1 : W.frozen? ⟨R, 1, none⟩ = false
theorem KeptR.turn {W W' : World} {R : Nat} (h : KeptR W R) (t : TurnIn 0 0 W W') (hR : R < W.heap.size) : KeptR W' R := ⟨cell_turn t h.r0 hR, cell_turn t h.r1 hR, frozen_turn t h.f0 hR, frozen_turn t h.f1 hR⟩
theorem KeptR.set {W : World} {R g o : Nat} {z : Value} (h : KeptR W R) (hn : g ≠ R) : KeptR (W.setCell ⟨g, o, none⟩ z) R := ⟨(cell_set_other W _ _ _ hn).trans h.r0, (cell_set_other W _ _ _ hn).trans h.r1, (frozen_set_other W _ _ _ hn).trans h.f0, (frozen_set_other W _ _ _ hn).trans h.f1⟩
end G294
namespace Go.Proofs.YtjgmegfbfjmnfaaDoor
open Go.RowKit G294

end Go.Proofs.YtjgmegfbfjmnfaaDoor

/- The cursor's stripe. -/
namespace Go.Proofs.YtjgmegfbfjmnfaaDoor
open Go.RowKit G294
theorem cur_strs {w w' : World} {g m : Nat} {cv v : Value} {T : List (List UInt8)} (hc : CurAt w g cv m) (hv : Seen w v (strs T)) (t : TurnIn g (g + 1) w w') : Seen w' v (strs T) := by
  obtain ⟨A, c, rfl, h1, h2, h3⟩ := hv
  refine ⟨A, c, rfl, h1, h2, fun hp => ?_⟩
  obtain ⟨b, off, rfl, hb, hcell⟩ := h3 hp
  have hne : b ≠ g := by
    rintro rfl
    rw [strs_length] at hp
    have h := hcell 0 _ (strs_get T 0 hp)
    obtain ⟨at_, seed, l, A', c', hg, _, hcv, _⟩ := hc
    rw [Lib.cell_of_heap hg, hcv] at h
    rcases off with _ | _ | _ | off <;> simp at h
  exact ⟨b, off, rfl, Nat.lt_of_lt_of_le hb t.size, fun i u hu => (World.cell?_of_block (a := ⟨b, off + i, none⟩) (t.block b hb (by omega))).trans (hcell i u hu)⟩
theorem frozen_keepT {w w' : World} {B o a b : Nat} {x : Bool} (h : w.frozen? ⟨B, o, none⟩ = x) (hl : B < w.heap.size) (t : TurnIn a b w w') (d : B < a ∨ b ≤ B) : w'.frozen? ⟨B, o, none⟩ = x := by
  rw [← h]
  simp only [World.frozen?, t.block B hl d]
/-- a drawn stripe in its variable S, beside the cursor and the result's box R -/
structure StrSt (w W : World) (g R S lo mid hi m : Nat) (cv va vp : Value) (D P : List (List UInt8)) : Prop where
  cur : CurAt W g cv m
  kept : KeptR W R
  s0 : W.cell? ⟨S, 0, none⟩ = some va
  s1 : W.cell? ⟨S, 1, none⟩ = some vp
  data : OwnStrs 9 W lo mid va D
  par : OwnStrs 9 W mid hi vp P
  hg : g < w.heap.size
  hR : w.heap.size ≤ R
  hRl : R < lo
  hlm : lo ≤ mid
  hmh : mid ≤ hi
  hhS : hi ≤ S
  hSW : S < W.heap.size
  turn : TurnIn g (g + 1) w W
section
variable {w W W' : World} {g R S lo mid hi m m' : Nat} {cv va vp : Value} {D P : List (List UInt8)}
theorem StrSt.draw (h : StrSt w W g R S lo mid hi m cv va vp D P) (t : TurnIn g (g + 1) W W') (hc : CurAt W' g cv m') : StrSt w W' g R S lo mid hi m' cv va vp D P := by
  obtain ⟨a1, a2, a3, a4, a5, a6, a7, a8, a9, b1, b2, b3, b4, b5⟩ := h
  have sz := t.size
  exact ⟨hc, ⟨cell_keepT a2.r0 (by omega) t (by omega), cell_keepT a2.r1 (by omega) t (by omega), frozen_keepT a2.f0 (by omega) t (by omega), frozen_keepT a2.f1 (by omega) t (by omega)⟩, cell_keepT a3 b4 t (by omega), cell_keepT a4 b4 t (by omega), a5.keep t (by omega), a6.keep t (by omega), a7, a8, a9, b1, b2, b3, by omega, turn_trans b5 t (by omega)⟩
theorem StrSt.storeD {b n cap q : Nat} {x : List UInt8} (h : StrSt w W g R S lo mid hi m cv (.slice (some ⟨b, 0, none⟩) n cap) vp D P) (hn : D.length = n) : StrSt w (W.setCell ⟨b, q, none⟩ (.string (str x))) g R S lo mid hi m cv (.slice (some ⟨b, 0, none⟩) n cap) vp (D.set q x) P := by
  obtain ⟨a1, a2, a3, a4, a5, a6, a7, a8, a9, b1, b2, b3, b4, b5⟩ := h
  have g1 := (a5.1.lt b rfl).1
  have g2 := a5.2.2 b rfl
  have k := turn_setCell W b q (.string (str x))
  have sz := k.size
  exact ⟨a1.keep k (by omega), a2.set (by omega), (cell_set_other W _ _ _ (by omega)).trans a3, (cell_set_other W _ _ _ (by omega)).trans a4, a5.store hn rfl, a6.keep k (by omega), a7, a8, a9, b1, b2, b3, by omega, turn_trans b5 k (by omega)⟩
theorem StrSt.storeP {b n cap q : Nat} {x : List UInt8} (h : StrSt w W g R S lo mid hi m cv va (.slice (some ⟨b, 0, none⟩) n cap) D P) (hn : P.length = n) : StrSt w (W.setCell ⟨b, q, none⟩ (.string (str x))) g R S lo mid hi m cv va (.slice (some ⟨b, 0, none⟩) n cap) D (P.set q x) := by
  obtain ⟨a1, a2, a3, a4, a5, a6, a7, a8, a9, b1, b2, b3, b4, b5⟩ := h
  have g1 := (a6.1.lt b rfl).1
  have g2 := a6.2.2 b rfl
  have k := turn_setCell W b q (.string (str x))
  have sz := k.size
  exact ⟨a1.keep k (by omega), a2.set (by omega), (cell_set_other W _ _ _ (by omega)).trans a3, (cell_set_other W _ _ _ (by omega)).trans a4, a5.keep k (by omega), a6.store hn rfl, a7, a8, a9, b1, b2, b3, by omega, turn_trans b5 k (by omega)⟩
theorem StrSt.done (h : StrSt w W g R S lo mid hi m cv va vp D P) : OwnStrs 9 ((W.setCell ⟨R, 0, none⟩ va).setCell ⟨R, 1, none⟩ vp) lo mid va D ∧ OwnStrs 9 ((W.setCell ⟨R, 0, none⟩ va).setCell ⟨R, 1, none⟩ vp) mid hi vp P ∧ (w.heap.size ≤ lo ∧ lo ≤ mid ∧ mid ≤ hi ∧ hi ≤ ((W.setCell ⟨R, 0, none⟩ va).setCell ⟨R, 1, none⟩ vp).heap.size) ∧ CurAt ((W.setCell ⟨R, 0, none⟩ va).setCell ⟨R, 1, none⟩ vp) g cv m ∧ TurnIn g (g + 1) w ((W.setCell ⟨R, 0, none⟩ va).setCell ⟨R, 1, none⟩ vp) := by
  obtain ⟨a1, a2, a3, a4, a5, a6, a7, a8, a9, b1, b2, b3, b4, b5⟩ := h
  have k0 := turn_setCell W R 0 va
  have k1 := turn_setCell (W.setCell ⟨R, 0, none⟩ va) R 1 vp
  have q0 := k0.size
  have q1 := k1.size
  exact ⟨(a5.keep k0 (by omega)).keep k1 (by omega), (a6.keep k0 (by omega)).keep k1 (by omega), ⟨by omega, b1, b2, by omega⟩, (a1.keep k0 (by omega)).keep k1 (by omega), turn_trans (turn_trans b5 k0 (by omega)) k1 (by omega)⟩
end
/-- some stripe is drawn -/
def DrawsT (w : World) (g : Nat) (cv : Value) (m : Nat) (e : Ending) (w' : World) : Prop := ∃ (x y : Value) (t : Strp) (lo mid hi : Nat), e = .returned (.agg #[x, y]) ∧ OwnStrs 9 w' lo mid x t.1 ∧ OwnStrs 9 w' mid hi y t.2 ∧ (w.heap.size ≤ lo ∧ lo ≤ mid ∧ mid ≤ hi ∧ hi ≤ w'.heap.size) ∧ (t.1.length ≤ 16 ∧ ∀ r ∈ t.1, r.length ≤ 40) ∧ CurAt w' g cv m ∧ TurnIn g (g + 1) w w'

end Go.Proofs.YtjgmegfbfjmnfaaDoor
