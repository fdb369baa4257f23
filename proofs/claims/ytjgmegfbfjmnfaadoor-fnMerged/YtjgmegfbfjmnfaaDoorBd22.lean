/- Joined texts: MrgMath, Mrg1, Mrg2, CutS, MrgBox. -/
import Derived.Test.YtjgmegfbfjmnfaaDoorBd16
import Derived.Deep.QuietTactic
import Derived.BigQuiet
import Derived.Deep.RegionHeld3
import Derived.Test.YtjgmegfbfjmnfaaDoorBd11
import Derived.Test.YtjgmegfbfjmnfaaDoorBd17
import Derived.Test.YtjgmegfbfjmnfaaDoorBd14
set_option linter.unusedSimpArgs false
set_option linter.unusedVariables false
/- MergeStripes: what is merged. -/
namespace G294
open Go Go.RowKit
def lenB (L : List (List UInt8)) : Prop := 1 ≤ L.length ∧ L.length ≤ 1000
def mrgOk (a b : Strp) : Bool := strpOk a && (strpOk b && (decide (a.2.length = b.2.length) && (decide (firstLen a = firstLen b) && decide (a.1.length + b.1.length ≤ 16))))
def mrgP (a b : Strp) (i : Nat) : List UInt8 := plusL (a.2.getD i []) (prmF i a.1.length) (b.2.getD i [])
def mrgS (a b : Strp) : Strp := (a.1 ++ b.1, textsF a.2.length (mrgP a b))
def mrgR (a b : Strp) : Strp := if mrgOk a b = true then mrgS a b else ([], [])
theorem mrgR_no {a b : Strp} (h : mrgOk a b = false) : mrgR a b = ([], []) := if_neg (by rw [h]; simp)
theorem mrgR_yes {a b : Strp} (h : mrgOk a b = true) : mrgR a b = mrgS a b := if_pos h
theorem mrgOk_b {a b : Strp} (h : mrgOk a b = true) : strpOk a = true ∧ strpOk b = true ∧ a.2.length = b.2.length ∧ firstLen a = firstLen b ∧ a.1.length + b.1.length ≤ 16 := by
  simpa [mrgOk] using h
theorem mrgR_len (a b : Strp) : (mrgR a b).1.length + (mrgR a b).2.length ≤ 20 := by
  unfold mrgR; split
  · rename_i h
    obtain ⟨h1, h2, h3, h4, h5⟩ := mrgOk_b h
    have := strpOk_b h1
    simp only [mrgS, List.length_append, textsF_length]; omega
  · simp
theorem par4_nat {n : Nat} : par4 (n : Int) = decide (1 ≤ n ∧ n ≤ 4) := by
  simp only [par4]; exact decide_eq_decide.2 (by omega)
theorem head_len {A B : List (List UInt8)} (h : 1 ≤ A.length) : (A ++ B).getD 0 [] = A.getD 0 [] := getD_head_append h
/-- the data of two valid stripes beside parities of the first's length -/
theorem mrg_ok {a b : Strp} (ha : strpOk a = true) (hb : strpOk b = true) {P : List (List UInt8)} (hP : ∀ t ∈ P, t.length = firstLen a) (hn : P.length = a.2.length) :
    strpOk (a.1 ++ b.1, P) = (decide (firstLen a = firstLen b) && decide (a.1.length + b.1.length ≤ 16)) := by
  have h1 := strpOk_b ha
  have h2 := strpOk_b hb
  have l1 := strpOk_len ha
  have l2 := strpOk_len hb
  by_cases h3 : a.1.length + b.1.length ≤ 16
  · have e1 : goodI ((a.1 ++ b.1).length : Int) = true := by rw [goodI_nat]; simp only [List.length_append]; simp; omega
    have e2 : par4 (P.length : Int) = true := by rw [par4_nat, hn]; simp; omega
    by_cases h4 : firstLen a = firstLen b
    · have e3 : textsOk ((a.1 ++ b.1) ++ P) = true := by
        rw [textsOk_all]
        intro t ht
        rw [List.append_assoc, head_len h1.1.1]
        have h40 : (a.1.getD 0 []).length ≤ 40 := l1.2.2
        rcases List.mem_append.1 ht with ht | ht
        · rcases List.mem_append.1 ht with ht | ht
          · have := l1.1 t ht; omega
          · have := l2.1 t ht
            have h4' : (a.1.getD 0 []).length = (b.1.getD 0 []).length := h4
            omega
        · have := hP t ht
          have h4' : firstLen a = (a.1.getD 0 []).length := rfl
          omega
      simp only [strpOk, e1, e2, e3, h4, h3]; rfl
    · have e3 : textsOk ((a.1 ++ b.1) ++ P) = false := by
        have hm : b.1.getD 0 [] ∈ b.1 := getD_mem (by omega)
        cases hh : textsOk ((a.1 ++ b.1) ++ P) with
        | false => rfl
        | true =>
          have := (textsOk_all.1 hh) (b.1.getD 0 []) (List.mem_append_left _ (List.mem_append_right _ hm))
          rw [List.append_assoc, head_len h1.1.1] at this
          exact absurd this.1.symm h4
      show (goodI ((a.1 ++ b.1).length : Int) && (par4 (P.length : Int) && textsOk ((a.1 ++ b.1) ++ P))) = _
      rw [e3]; simp [h4]
  · have e1 : goodI ((a.1 ++ b.1).length : Int) = false := by rw [goodI_nat]; simp only [List.length_append]; simp; omega
    show (goodI ((a.1 ++ b.1).length : Int) && (par4 (P.length : Int) && textsOk ((a.1 ++ b.1) ++ P))) = _
    rw [e1]; simp [h3]
theorem mrg_impl {a b : Strp} (ha : strpOk a = true) (hb : strpOk b = true) : strpOk (a.1 ++ b.1, a.2) = (decide (firstLen a = firstLen b) && decide (a.1.length + b.1.length ≤ 16)) :=
  mrg_ok ha hb (strpOk_len ha).2.1 rfl
theorem mrg_spec {a b : Strp} (ha : strpOk a = true) (hb : strpOk b = true) (h4 : firstLen a = firstLen b) : strpOk (mrgS a b) = decide (a.1.length + b.1.length ≤ 16) := by
  have h := mrg_ok ha hb (P := textsF a.2.length (mrgP a b)) (fun t ht => by
    simp only [textsF, List.mem_map, List.mem_range] at ht
    obtain ⟨i, hi, rfl⟩ := ht
    rw [mrgP, plusL_length]; exact strp_len2 ha hi) (by simp)
  rw [show mrgS a b = (a.1 ++ b.1, textsF a.2.length (mrgP a b)) from rfl, h, h4]; simp
end G294

/- mergeable, the program's. -/
namespace Go.Proofs.YtjgmegfbfjmnfaaDoor
open Go.RowKit G294

set_option maxRecDepth 100000 in
set_option maxHeartbeats 4000000 in
theorem mergeable_any (v u v2 u2 : Value) (a q : Strp) (w : World) (hv : Seen w v (strs a.1)) (hu : Seen w u (strs a.2)) (hv2 : Seen w v2 (strs q.1)) (hu2 : Seen w u2 (strs q.2)) :
    Calls Tryd.prog 34 #[.agg #[v, u], .agg #[v2, u2]] w (RetBool w (mrgOk a q)) := by
  have HV := Lib.hid hv
  have HU := Lib.hid hu
  have HV2 := Lib.hid hv2
  have HU2 := Lib.hid hu2
  have HDEF : Hid (mrgOk a q = (strpOk a && (strpOk q && (decide (a.2.length = q.2.length) && (decide (firstLen a = firstLen q) && decide (a.1.length + q.1.length ≤ 16)))))) := Lib.hid rfl
  obtain ⟨A, c, hvv⟩ := hv.len
  obtain ⟨A2, c2, hvv2⟩ := hv2.len
  rw [strs_length] at hvv hvv2
  subst hvv hvv2
  obtain ⟨B, d, huu⟩ := hu.len
  obtain ⟨B2, d2, huu2⟩ := hu2.len
  rw [strs_length] at huu huu2
  subst huu huu2
  clear hv hu hv2 hu2
  by_cases h1 : strpOk a = true
  · have HA := Lib.hid h1
    have b1 := strpOk_b h1
    by_cases h2 : strpOk q = true
    · have HQ := Lib.hid h2
      have b2 := strpOk_b h2
      by_cases h4 : a.2.length = q.2.length
      · have HO : Hid (mrgOk a q = strpOk (a.1 ++ q.1, a.2)) := Lib.hid (by rw [HDEF.out, h1, h2, mrg_impl h1 h2]; simp [h4])
        have t2 : ((a.2.length : Int) == (q.2.length : Int)) = true := by simp [h4]
        have HBN : Hid (lenB a.1 ∧ lenB q.1) := Lib.hid (by unfold lenB; omega)
        clear h1 h2 h4 b1 b2
        clear HDEF
        generalize a.1.length = n at *
        generalize a.2.length = m at *
        generalize q.1.length = n2 at *
        generalize q.2.length = m2 at *
        have a1 := turn_alloc w (.cells #[.slice A n c, .slice B m d] 25)
        have a2 := turn_alloc (w.alloc (.cells #[.slice A n c, .slice B m d] 25)) (.cells #[.slice A2 n2 c2, .slice B2 m2 d2] 25)
        have z2 : ((w.alloc (.cells #[.slice A n c, .slice B m d] 25)).alloc (.cells #[.slice A2 n2 c2, .slice B2 m2 d2] 25)).heap.size = w.heap.size + 2 := by simp
        have x0 := cell_turn a2 (alloc_duo0 w (.slice A n c) (.slice B m d) 25) (alloc_lt _ _)
        have x1 := cell_turn a2 (alloc_duo1 w (.slice A n c) (.slice B m d) 25) (alloc_lt _ _)
        have y0 := alloc_duo0 (w.alloc (.cells #[.slice A n c, .slice B m d] 25)) (.slice A2 n2 c2) (.slice B2 m2 d2) 25
        have y1 := alloc_duo1 (w.alloc (.cells #[.slice A n c, .slice B m d] 25)) (.slice A2 n2 c2) (.slice B2 m2 d2) 25
        rw [World.size_alloc] at y0 y1
        have k2 := turn_trans a1 a2 (by omega)
        go_enter Tryd.func34, Tryd.ntmps34
        go_wp2_with fail
        generalize ((w.alloc (.cells #[.slice A n c, .slice B m d] 25)).alloc (.cells #[.slice A2 n2 c2, .slice B2 m2 d2] 25)) = w1 at *
        have hz1 : w.heap.size + 2 ≤ w1.heap.size := by omega
        have hS0 : Below w1.heap.size w1 w1.drew ∧ w1.drew.cell? ⟨w.heap.size, 0, none⟩ = some (.slice A n c) ∧ w1.drew.cell? ⟨w.heap.size, 1, none⟩ = some (.slice B m d) ∧ w1.drew.cell? ⟨w.heap.size + 1, 0, none⟩ = some (.slice A2 n2 c2) ∧ w1.drew.cell? ⟨w.heap.size + 1, 1, none⟩ = some (.slice B2 m2 d2) := ⟨(Below.refl _ _).drew, x0, x1, y0, y1⟩
        have HSX : Hid (∀ W, Below w1.heap.size w1 W → (Below w1.heap.size w1 W ∧ W.cell? ⟨w.heap.size, 0, none⟩ = some (.slice A n c) ∧ W.cell? ⟨w.heap.size, 1, none⟩ = some (.slice B m d) ∧ W.cell? ⟨w.heap.size + 1, 0, none⟩ = some (.slice A2 n2 c2) ∧ W.cell? ⟨w.heap.size + 1, 1, none⟩ = some (.slice B2 m2 d2))) := Lib.hid (fun W hb => ⟨hb, (hb.cell (p := ⟨w.heap.size, 0, none⟩) (show w.heap.size < w1.heap.size by omega)).trans x0, (hb.cell (p := ⟨w.heap.size, 1, none⟩) (show w.heap.size < w1.heap.size by omega)).trans x1, (hb.cell (p := ⟨w.heap.size + 1, 0, none⟩) (show w.heap.size + 1 < w1.heap.size by omega)).trans y0, (hb.cell (p := ⟨w.heap.size + 1, 1, none⟩) (show w.heap.size + 1 < w1.heap.size by omega)).trans y1⟩)
        have HV1 := Lib.hid (HV.out.touch k2)
        have HU1 := Lib.hid (HU.out.touch k2)
        have HV3 := Lib.hid (HV2.out.touch k2)
        have HU3 := Lib.hid (HU2.out.touch k2)
        have HG1 : Hid (∀ W, Below w1.heap.size w1 W → Calls Tryd.prog 13 #[.agg #[.slice A n c, .slice B m d]] W (RetBool W true)) := Lib.hid (fun W hb => HA.out ▸ goodStripe_any _ _ a W (HV1.out.below hb) (HU1.out.below hb))
        have HG2 : Hid (∀ W, Below w1.heap.size w1 W → Calls Tryd.prog 13 #[.agg #[.slice A2 n2 c2, .slice B2 m2 d2]] W (RetBool W true)) := Lib.hid (fun W hb => HQ.out ▸ goodStripe_any _ _ q W (HV3.out.below hb) (HU3.out.below hb))
        have K2 := Lib.hid k2
        clear z2 a1 a2 k2 x0 x1 y0 y1
        go_region_held3 (fun W => Below w1.heap.size w1 W ∧ W.cell? ⟨w.heap.size, 0, none⟩ = some (.slice A n c) ∧ W.cell? ⟨w.heap.size, 1, none⟩ = some (.slice B m d) ∧ W.cell? ⟨w.heap.size + 1, 0, none⟩ = some (.slice A2 n2 c2) ∧ W.cell? ⟨w.heap.size + 1, 1, none⟩ = some (.slice B2 m2 d2))
          (first | exact hS0 | exact HSX.out _ hb3 | exact HSX.out _ hb4 | exact HSX.out _ (hb4.alloc hb4.size _) | exact HSX.out _ hb5 | exact HSX.out _ hb6)
          (first
            | (go_at_call 13; (with_reducible refine (HG1.out _ (And.left (by assumption))).mono ?_); rintro e w3 ⟨rfl, k3⟩; have hb3 : Below w1.heap.size w1 w3 := k3.base (And.left (by assumption)) (Below.size (And.left (by assumption))) (by omega))
            | (go_at_call 13; (with_reducible refine (HG2.out _ (And.left (by assumption))).mono ?_); rintro e w4 ⟨rfl, k4⟩; have hb4 : Below w1.heap.size w1 w4 := k4.base hb3 hb3.size (by omega); have s4 := hb4.size; have HCC := Lib.hid (concat_own (.slice A n c) (.slice A2 n2 c2) a.1 q.1 w4.heap.size (w4.alloc (.cells #[.slice A n c, .slice A2 n2 c2] 23)) (alloc_lt _ _) (alloc_duo0 _ _ _ _) (alloc_duo1 _ _ _ _) ((HV1.out.below hb4).touch (turn_alloc _ _)) ((HV3.out.below hb4).touch (turn_alloc _ _)) HBN.out.1.1 HBN.out.1.2 HBN.out.2.1 HBN.out.2.2))
            | (go_at_call 36; refine HCC.out.mono ?_; rintro e w5 ⟨x5, rfl, o5, k5⟩; obtain ⟨A5, n5, c5, rfl⟩ := o5.isSlice; have hb5 : Below w1.heap.size w1 w5 := (turn_trans (turn_alloc _ _) k5 (by omega) : TurnIn 0 0 w4 w5).base hb4 s4 (by omega); have HG3 := Lib.hid (goodStripe_any (.slice A5 n5 c5) (.slice B m d) (a.1 ++ q.1, a.2) w5 o5.seen (HU1.out.below hb5)))
            | (go_at_call 13; refine HG3.out.mono ?_; rintro e w6 ⟨rfl, k6⟩; have hb6 : Below w1.heap.size w1 w6 := k6.base hb5 hb5.size (by omega)))
        all_goals
          go_wp2_with fail
          go_ret
          exact ⟨by rw [HO.out]; rfl, turn_of_below K2.out.to_below (TurnIn.of_below hb6)⟩
      · have HO : Hid (mrgOk a q = false) := Lib.hid (by rw [HDEF.out]; simp [h4])
        have t2 : ((a.2.length : Int) == (q.2.length : Int)) = false := by simp; omega
        clear h1 h2 h4 b1 b2
        clear HDEF
        generalize a.1.length = n at *
        generalize a.2.length = m at *
        generalize q.1.length = n2 at *
        generalize q.2.length = m2 at *
        have a1 := turn_alloc w (.cells #[.slice A n c, .slice B m d] 25)
        have a2 := turn_alloc (w.alloc (.cells #[.slice A n c, .slice B m d] 25)) (.cells #[.slice A2 n2 c2, .slice B2 m2 d2] 25)
        have z2 : ((w.alloc (.cells #[.slice A n c, .slice B m d] 25)).alloc (.cells #[.slice A2 n2 c2, .slice B2 m2 d2] 25)).heap.size = w.heap.size + 2 := by simp
        have x0 := cell_turn a2 (alloc_duo0 w (.slice A n c) (.slice B m d) 25) (alloc_lt _ _)
        have x1 := cell_turn a2 (alloc_duo1 w (.slice A n c) (.slice B m d) 25) (alloc_lt _ _)
        have y0 := alloc_duo0 (w.alloc (.cells #[.slice A n c, .slice B m d] 25)) (.slice A2 n2 c2) (.slice B2 m2 d2) 25
        have y1 := alloc_duo1 (w.alloc (.cells #[.slice A n c, .slice B m d] 25)) (.slice A2 n2 c2) (.slice B2 m2 d2) 25
        rw [World.size_alloc] at y0 y1
        have k2 := turn_trans a1 a2 (by omega)
        go_enter Tryd.func34, Tryd.ntmps34
        go_wp2_with fail
        generalize ((w.alloc (.cells #[.slice A n c, .slice B m d] 25)).alloc (.cells #[.slice A2 n2 c2, .slice B2 m2 d2] 25)) = w1 at *
        have e0 := grew_cell x0 (by omega)
        have e1 := grew_cell x1 (by omega)
        have e2 := grew_cell y0 (by omega)
        have e3 := grew_cell y1 (by omega)
        have HG1 := Lib.hid (fun p : Grew w1 => grew_bool (goodStripe_any _ _ a p.at_ ((HV.out.touch k2).below p.old) ((HU.out.touch k2).below p.old)))
        have HG2 := Lib.hid (fun p : Grew w1 => grew_bool (goodStripe_any _ _ q p.at_ ((HV2.out.touch k2).below p.old) ((HU2.out.touch k2).below p.old)))
        rw [HA.out] at HG1
        rw [HQ.out] at HG2
        have K2 := Lib.hid k2
        clear x0 x1 y0 y1 z2 k2 a1 a2
        refine wp_region_grew (by kernel_rfl) (by kernel_rfl) ?_
        repeat (first | go_big_quiet_skip | quiet_step ((go_at_call 13; first | with_reducible exact HG1.out _ | exact HG2.out _)))
        refine wpQuiet_nil ?_
        rintro _ ⟨p, rfl⟩
        go_wp2_with fail
        go_ret
        exact ⟨by rw [HO.out]; rfl, turn_of_below K2.out.to_below (TurnIn.of_below p.old)⟩
    · have HQ : Hid (strpOk q = false) := Lib.hid (by simpa using h2)
      have HO : Hid (mrgOk a q = false) := Lib.hid (by rw [HDEF.out, HQ.out]; simp)
      clear h1 h2 b1
      clear HDEF
      generalize a.1.length = n at *
      generalize a.2.length = m at *
      generalize q.1.length = n2 at *
      generalize q.2.length = m2 at *
      have a1 := turn_alloc w (.cells #[.slice A n c, .slice B m d] 25)
      have a2 := turn_alloc (w.alloc (.cells #[.slice A n c, .slice B m d] 25)) (.cells #[.slice A2 n2 c2, .slice B2 m2 d2] 25)
      have z2 : ((w.alloc (.cells #[.slice A n c, .slice B m d] 25)).alloc (.cells #[.slice A2 n2 c2, .slice B2 m2 d2] 25)).heap.size = w.heap.size + 2 := by simp
      have x0 := cell_turn a2 (alloc_duo0 w (.slice A n c) (.slice B m d) 25) (alloc_lt _ _)
      have x1 := cell_turn a2 (alloc_duo1 w (.slice A n c) (.slice B m d) 25) (alloc_lt _ _)
      have y0 := alloc_duo0 (w.alloc (.cells #[.slice A n c, .slice B m d] 25)) (.slice A2 n2 c2) (.slice B2 m2 d2) 25
      have y1 := alloc_duo1 (w.alloc (.cells #[.slice A n c, .slice B m d] 25)) (.slice A2 n2 c2) (.slice B2 m2 d2) 25
      rw [World.size_alloc] at y0 y1
      have k2 := turn_trans a1 a2 (by omega)
      go_enter Tryd.func34, Tryd.ntmps34
      go_wp2_with fail
      generalize ((w.alloc (.cells #[.slice A n c, .slice B m d] 25)).alloc (.cells #[.slice A2 n2 c2, .slice B2 m2 d2] 25)) = w1 at *
      have e0 := grew_cell x0 (by omega)
      have e1 := grew_cell x1 (by omega)
      have e2 := grew_cell y0 (by omega)
      have e3 := grew_cell y1 (by omega)
      have HG1 := Lib.hid (fun p : Grew w1 => grew_bool (goodStripe_any _ _ a p.at_ ((HV.out.touch k2).below p.old) ((HU.out.touch k2).below p.old)))
      have HG2 := Lib.hid (fun p : Grew w1 => grew_bool (goodStripe_any _ _ q p.at_ ((HV2.out.touch k2).below p.old) ((HU2.out.touch k2).below p.old)))
      rw [HA.out] at HG1
      rw [HQ.out] at HG2
      have K2 := Lib.hid k2
      clear x0 x1 y0 y1 z2 k2 a1 a2
      refine wp_region_grew (by kernel_rfl) (by kernel_rfl) ?_
      repeat (first | go_big_quiet_skip | quiet_step ((go_at_call 13; first | with_reducible exact HG1.out _ | exact HG2.out _)))
      refine wpQuiet_nil ?_
      rintro _ ⟨p, rfl⟩
      go_wp2_with fail
      go_ret
      exact ⟨by rw [HO.out]; rfl, turn_of_below K2.out.to_below (TurnIn.of_below p.old)⟩
  · have HA : Hid (strpOk a = false) := Lib.hid (by simpa using h1)
    have HO : Hid (mrgOk a q = false) := Lib.hid (by rw [HDEF.out, HA.out]; simp)
    clear h1
    clear HDEF
    generalize a.1.length = n at *
    generalize a.2.length = m at *
    generalize q.1.length = n2 at *
    generalize q.2.length = m2 at *
    have a1 := turn_alloc w (.cells #[.slice A n c, .slice B m d] 25)
    have a2 := turn_alloc (w.alloc (.cells #[.slice A n c, .slice B m d] 25)) (.cells #[.slice A2 n2 c2, .slice B2 m2 d2] 25)
    have z2 : ((w.alloc (.cells #[.slice A n c, .slice B m d] 25)).alloc (.cells #[.slice A2 n2 c2, .slice B2 m2 d2] 25)).heap.size = w.heap.size + 2 := by simp
    have x0 := cell_turn a2 (alloc_duo0 w (.slice A n c) (.slice B m d) 25) (alloc_lt _ _)
    have x1 := cell_turn a2 (alloc_duo1 w (.slice A n c) (.slice B m d) 25) (alloc_lt _ _)
    have y0 := alloc_duo0 (w.alloc (.cells #[.slice A n c, .slice B m d] 25)) (.slice A2 n2 c2) (.slice B2 m2 d2) 25
    have y1 := alloc_duo1 (w.alloc (.cells #[.slice A n c, .slice B m d] 25)) (.slice A2 n2 c2) (.slice B2 m2 d2) 25
    rw [World.size_alloc] at y0 y1
    have k2 := turn_trans a1 a2 (by omega)
    go_enter Tryd.func34, Tryd.ntmps34
    go_wp2_with fail
    generalize ((w.alloc (.cells #[.slice A n c, .slice B m d] 25)).alloc (.cells #[.slice A2 n2 c2, .slice B2 m2 d2] 25)) = w1 at *
    have e0 := grew_cell x0 (by omega)
    have e1 := grew_cell x1 (by omega)
    have e2 := grew_cell y0 (by omega)
    have e3 := grew_cell y1 (by omega)
    have HG1 := Lib.hid (fun p : Grew w1 => grew_bool (goodStripe_any _ _ a p.at_ ((HV.out.touch k2).below p.old) ((HU.out.touch k2).below p.old)))
    have HG2 := Lib.hid (fun p : Grew w1 => grew_bool (goodStripe_any _ _ q p.at_ ((HV2.out.touch k2).below p.old) ((HU2.out.touch k2).below p.old)))
    rw [HA.out] at HG1
    have K2 := Lib.hid k2
    clear x0 x1 y0 y1 z2 k2 a1 a2
    refine wp_region_grew (by kernel_rfl) (by kernel_rfl) ?_
    repeat (first | go_big_quiet_skip | quiet_step ((go_at_call 13; first | with_reducible exact HG1.out _ | exact HG2.out _)))
    refine wpQuiet_nil ?_
    rintro _ ⟨p, rfl⟩
    go_wp2_with fail
    go_ret
    exact ⟨by rw [HO.out]; rfl, turn_of_below K2.out.to_below (TurnIn.of_below p.old)⟩

end Go.Proofs.YtjgmegfbfjmnfaaDoor

/- MergeStripes, the program's. -/
namespace Go.Proofs.YtjgmegfbfjmnfaaDoor
open Go.RowKit G294

set_option maxRecDepth 100000 in
set_option maxHeartbeats 4000000 in
theorem mergeStripes_own (v u v2 u2 : Value) (a q : Strp) (w : World) (hv : Seen w v (strs a.1)) (hu : Seen w u (strs a.2)) (hv2 : Seen w v2 (strs q.1)) (hu2 : Seen w u2 (strs q.2)) (ht : Tab w) (h0 : 0 < w.heap.size) :
    Calls Tryd.prog 6 #[.agg #[v, u], .agg #[v2, u2]] w (RetTOk 9 w (mrgR a q) (mrgOk a q)) := by
  obtain ⟨A, c, hvv⟩ := hv.len
  obtain ⟨B, d, huu⟩ := hu.len
  obtain ⟨A2, c2, hvv2⟩ := hv2.len
  obtain ⟨B2, d2, huu2⟩ := hu2.len
  rw [strs_length] at hvv huu hvv2 huu2
  subst hvv huu hvv2 huu2
  obtain ⟨n, hn⟩ : ∃ n, n = a.1.length := ⟨_, rfl⟩
  obtain ⟨m, hm⟩ : ∃ m, m = a.2.length := ⟨_, rfl⟩
  obtain ⟨n2, hn2⟩ : ∃ n, n = q.1.length := ⟨_, rfl⟩
  obtain ⟨m2, hm2⟩ : ∃ m, m = q.2.length := ⟨_, rfl⟩
  have HN := Lib.hid hn
  have HM := Lib.hid hm
  have HN2 := Lib.hid hn2
  have HM2 := Lib.hid hm2
  rw [← hn] at hv ⊢
  rw [← hm] at hu ⊢
  rw [← hn2] at hv2 ⊢
  rw [← hm2] at hu2 ⊢
  clear hn hm hn2 hm2
  obtain ⟨x0, x1, hK, z3, k3⟩ := three_boxes w (.slice A n c) (.slice B m d) (.slice A2 n2 c2) (.slice B2 m2 d2) (.slice none 0 0) (.slice none 0 0) 25
  have HV := Lib.hid (hv.touch k3)
  have HU := Lib.hid (hu.touch k3)
  have HV2 := Lib.hid (hv2.touch k3)
  have HU2 := Lib.hid (hu2.touch k3)
  have HTT := Lib.hid ht
  have HC := Lib.hid (mergeable_any _ _ _ _ a q _ HV.out HU.out HV2.out HU2.out)
  clear hv hu hv2 hu2 ht
  obtain ⟨y0, y1, r0, r1, f0, f1⟩ := hK
  by_cases h : mrgOk a q = true
  · have HO := Lib.hid h
    obtain ⟨h1, h2, h4, h5, h6⟩ := mrgOk_b h
    have b1 := strpOk_b h1
    have b2 := strpOk_b h2
    have HR : Hid (mrgR a q = (a.1 ++ q.1, textsF m (mrgP a q))) := Lib.hid (by rw [mrgR_yes h, HM.out]; rfl)
    have eg := enters_of Tryd.func38 (by kernel_rfl) rfl
    have h40 := strp_len40 h1
    have HS1 : Hid (∀ W i, Below ((((w.alloc (.cells #[.slice A n c, .slice B m d] 25)).alloc (.cells #[.slice A2 n2 c2, .slice B2 m2 d2] 25)).alloc (.cells #[.slice none 0 0, .slice none 0 0] 25))).heap.size ((((w.alloc (.cells #[.slice A n c, .slice B m d] 25)).alloc (.cells #[.slice A2 n2 c2, .slice B2 m2 d2] 25)).alloc (.cells #[.slice none 0 0, .slice none 0 0] 25))) W → i < m → Calls Tryd.prog 38 #[.agg #[.slice A n c, .slice B m d, .slice A2 n2 c2, .slice B2 m2 d2], .int .i64 i] W (RetStr W (mrgP a q i))) := Lib.hid (fun W i hb hi => by
      have hi' : i < a.2.length := by rw [← HM.out]; exact hi
      have hj' : i < q.2.length := by rw [← h4]; exact hi'
      have h := mergeText_own a.1.length _ _ _ _ a.1 a.2 q.1 q.2 i W (HV.out.below hb) (HU.out.below hb) (HV2.out.below hb) (HU2.out.below hb) rfl (by omega) hi' hj' (by omega) (by rw [strp_len2 h1 hi', strp_len2 h2 hj', h5]) (by rw [strp_len2 h1 hi']; omega) (HTT.out.below ((TurnIn.of_below hb).base k3.to_below k3.size (by omega)) h0) (by have := hb.size; omega)
      exact h)
    have HBIG : Hid (∀ y ∈ a.1 ++ q.1, y.length ≤ 1000000) := Lib.hid (fun y hy => by
      have h4a : (a.1.getD 0 []).length ≤ 40 := (strpOk_len h1).2.2
      have h4q : (q.1.getD 0 []).length ≤ 40 := (strpOk_len h2).2.2
      rcases List.mem_append.1 hy with hy | hy
      · have := (strpOk_len h1).1 y hy; omega
      · have := (strpOk_len h2).1 y hy; omega)
    have HBN : Hid (1 ≤ a.1.length ∧ a.1.length ≤ 1000 ∧ 1 ≤ q.1.length ∧ q.1.length ≤ 1000) := Lib.hid (by omega)
    have HLN : Hid ((a.1 ++ q.1).length ≤ 1000) := Lib.hid (by rw [List.length_append]; omega)
    have hnn : n ≤ 16 ∧ m ≤ 4 := by have e1 := HN.out; have e2 := HM.out; omega
    rw [HO.out, HR.out]
    rw [HO.out] at HC
    clear h h1 h2 h4 h5 h6 b1 b2 h40
    go_enter Tryd.func6, Tryd.ntmps6
    go_wp2_with fail
    generalize ((((w.alloc (.cells #[.slice A n c, .slice B m d] 25)).alloc (.cells #[.slice A2 n2 c2, .slice B2 m2 d2] 25)).alloc (.cells #[.slice none 0 0, .slice none 0 0] 25))) = w3 at *
    have hz3 : w.heap.size + 3 ≤ w3.heap.size := by omega
    clear z3
    refine HC.out.mono ?_
    rintro e w4 ⟨rfl, k4⟩
    have s4 := k4.size
    replace x0 := cell_turn k4 x0 (by omega)
    replace x1 := cell_turn k4 x1 (by omega)
    replace y0 := cell_turn k4 y0 (by omega)
    replace y1 := cell_turn k4 y1 (by omega)
    replace r0 := cell_turn k4 r0 (by omega)
    replace r1 := cell_turn k4 r1 (by omega)
    replace f0 := frozen_turn k4 f0 (by omega)
    replace f1 := frozen_turn k4 f1 (by omega)
    have k34 := turn_trans k3 k4 (by omega)
    have HB4 := Lib.hid k4.to_below
    have HX : Hid (∀ W, TurnIn 0 0 w4 W → (W.cell? ⟨w.heap.size, 0, none⟩ = some (.slice A n c) ∧ W.cell? ⟨w.heap.size, 1, none⟩ = some (.slice B m d) ∧ W.cell? ⟨w.heap.size + 1, 0, none⟩ = some (.slice A2 n2 c2) ∧ W.cell? ⟨w.heap.size + 1, 1, none⟩ = some (.slice B2 m2 d2))) := Lib.hid (fun W t => ⟨cell_turn t x0 (by omega), cell_turn t x1 (by omega), cell_turn t y0 (by omega), cell_turn t y1 (by omega)⟩)
    have hX0 := HX.out w4.drew (TurnIn.of_below (Below.refl _ _).drew)
    have hB4z := HB4.out.size
    clear HC
    go_wp2_with fail
    have HCC := Lib.hid (concat_own (.slice A n c) (.slice A2 n2 c2) a.1 q.1 w4.heap.size (w4.alloc (.cells #[.slice A n c, .slice A2 n2 c2] 23)).drew (alloc_lt _ _) (alloc_duo0 _ _ _ _) (alloc_duo1 _ _ _ _) ((HV.out.below HB4.out).below ((Below.refl _ _).alloc (Nat.le_refl _) _).drew) ((HV2.out.below HB4.out).below ((Below.refl _ _).alloc (Nat.le_refl _) _).drew) HBN.out.1 HBN.out.2.1 HBN.out.2.2.1 HBN.out.2.2.2)
    have hXA := HX.out (w4.alloc (.cells #[.slice A n c, .slice A2 n2 c2] 23)).drew (TurnIn.of_below ((Below.refl _ _).alloc (Nat.le_refl _) _).drew)
    go_region_held3 (fun W => W.cell? ⟨w.heap.size, 0, none⟩ = some (.slice A n c) ∧ W.cell? ⟨w.heap.size, 1, none⟩ = some (.slice B m d) ∧ W.cell? ⟨w.heap.size + 1, 0, none⟩ = some (.slice A2 n2 c2) ∧ W.cell? ⟨w.heap.size + 1, 1, none⟩ = some (.slice B2 m2 d2))
      (first | exact hX0 | exact hXA | exact HX.out _ k45 | exact hX5 | exact hX6 | exact ⟨(cell_set_other _ _ _ _ (by omega)).trans ((cell_set_other _ _ _ _ (by omega)).trans hX6.1), (cell_set_other _ _ _ _ (by omega)).trans ((cell_set_other _ _ _ _ (by omega)).trans hX6.2.1), (cell_set_other _ _ _ _ (by omega)).trans ((cell_set_other _ _ _ _ (by omega)).trans hX6.2.2.1), (cell_set_other _ _ _ _ (by omega)).trans ((cell_set_other _ _ _ _ (by omega)).trans hX6.2.2.2)⟩)
      (first
        | (go_at_call 36; refine HCC.out.mono ?_; rintro e w4b ⟨x4, rfl, o4, k4b⟩; obtain ⟨A4, n4, c4, rfl⟩ := o4.isSlice; have k45 : TurnIn 0 0 w4 w4b := turn_trans (TurnIn.of_below ((Below.refl _ _).alloc (Nat.le_refl _) _).drew) k4b (by omega); have s45 := k45.size; have HCP := Lib.hid (copiesOf_own (.slice A4 n4 c4) (a.1 ++ q.1) w4b o4.seen HLN.out HBIG.out))
        | (go_at_call 35; refine HCP.out.mono ?_; rintro e w5 ⟨u5, rfl, o5, k5'⟩; obtain ⟨A5, n5, c5, rfl⟩ := o5.isSlice; have k5 := turn_trans k45 k5' (by omega); have s5 := k5'.size; have hX5 := HX.out _ k5; have HA2 : Hid (TextAt Tryd.prog 38 (.agg #[.slice A n c, .slice B m d, .slice A2 n2 c2, .slice B2 m2 d2]) m (mrgP a q) w5) := Lib.hid (fun W i hb hi => HS1.out W i ((k5.base HB4.out s4 (by omega)).trans (hb.mono (by omega))) hi); have HT2 := Lib.hid (textsBy_own m 38 (.agg #[.slice A n c, .slice B m d, .slice A2 n2 c2, .slice B2 m2 d2]) (mrgP a q) w5 eg HA2.out (by omega)))
        | (go_at_call 37; (with_reducible refine HT2.out.mono ?_); rintro e w6 ⟨u6, rfl, o6, k6⟩; obtain ⟨A6, n6, c6, rfl⟩ := o6.isSlice; have s6 := k6.size; have k46 := turn_trans k5 k6 (by omega); have hX6 := HX.out _ k46; have q0 := cell_turn k46 r0 (by omega); have q1 := cell_turn k46 r1 (by omega); have g0 := frozen_turn k46 f0 (by omega); have g1 := frozen_turn k46 f1 (by omega)))
    all_goals
      have hO : OwnT 9 w6 w4.heap.size w6.heap.size (.slice A5 n5 c5) (.slice A6 n6 c6) (a.1 ++ q.1, textsF m (mrgP a q)) := ⟨w5.heap.size, by omega, by omega, (o5.keep k6 (by omega)).widerS (by omega) (Nat.le_refl _) (by omega), o6⟩
      have HF := Lib.hid (duo_store (R := w.heap.size + 2) hO (turn_trans k34 k46 (by omega)).to_below (by omega) (by omega) (by omega))
      clear o4 o5 o6 hO k5 k6 k46 k5'
      go_wp2_with fail
      refine bodyPost_ret (v := .tuple #[.agg #[.slice A5 n5 c5, .slice A6 n6 c6], .bool true]) (by simp [results, Tryd.results6, go_sem, q0, q1, g0, g1]) rfl ?_
      exact ⟨_, _, rfl, HF.out.1, HF.out.2⟩
  · have HO : Hid (mrgOk a q = false) := Lib.hid (by simpa using h)
    have HR := Lib.hid (mrgR_no HO.out)
    rw [HO.out, HR.out]
    rw [HO.out] at HC
    clear h
    go_enter Tryd.func6, Tryd.ntmps6
    go_wp2_with fail
    generalize ((((w.alloc (.cells #[.slice A n c, .slice B m d] 25)).alloc (.cells #[.slice A2 n2 c2, .slice B2 m2 d2] 25)).alloc (.cells #[.slice none 0 0, .slice none 0 0] 25))) = w3 at *
    have hz3 : w.heap.size + 3 ≤ w3.heap.size := by omega
    clear z3
    refine HC.out.mono ?_
    rintro e w4 ⟨rfl, k4⟩
    have s4 := k4.size
    replace r0 := cell_turn k4 r0 (by omega)
    replace r1 := cell_turn k4 r1 (by omega)
    replace f0 := frozen_turn k4 f0 (by omega)
    replace f1 := frozen_turn k4 f1 (by omega)
    have HF := Lib.hid (duo_store (R := w.heap.size + 2) (OwnT.nil 9 w4 (w.heap.size + 3) (by omega)) (turn_trans k3 k4 (by omega)).to_below (by omega) (by omega) (by omega))
    go_wp2_with fail
    refine bodyPost_ret (v := .tuple #[.agg #[.slice none 0 0, .slice none 0 0], .bool false]) (by simp [results, Tryd.results6, go_sem, r0, r1, f0, f1]) rfl ?_
    exact ⟨_, _, rfl, HF.out.1, HF.out.2⟩

end Go.Proofs.YtjgmegfbfjmnfaaDoor

/- A stripe that a call hands back, in a box of two cells that was made ahead of the call or behind it. -/
namespace G294
open Go Go.RowKit
/-- two cells of a box -/
def BoxD (B : Nat) (a b : Value) (W : World) : Prop := W.cell? ⟨B, 0, none⟩ = some a ∧ W.cell? ⟨B, 1, none⟩ = some b ∧ W.frozen? ⟨B, 0, none⟩ = false ∧ W.frozen? ⟨B, 1, none⟩ = false ∧ B < W.heap.size
theorem boxD_made {X W : World} {a b : Value} {T : TypeId} (k : TurnIn 0 0 (X.alloc (.cells #[a, b] T)) W) : BoxD X.heap.size a b W :=
  ⟨cell_turn k (alloc_duo0 _ _ _ _) (alloc_lt _ _), cell_turn k (alloc_duo1 _ _ _ _) (alloc_lt _ _), frozen_turn k (alloc_frz _ _ _ _) (alloc_lt _ _), frozen_turn k (alloc_frz _ _ _ _) (alloc_lt _ _), Nat.lt_of_lt_of_le (alloc_lt _ _) k.size⟩
theorem boxD_kept {W W' : World} {B : Nat} {a b : Value} (h : BoxD B a b W) (k : TurnIn 0 0 W W') : BoxD B a b W' :=
  ⟨cell_turn k h.1 h.2.2.2.2, cell_turn k h.2.1 h.2.2.2.2, frozen_turn k h.2.2.1 h.2.2.2.2, frozen_turn k h.2.2.2.1 h.2.2.2.2, Nat.lt_of_lt_of_le h.2.2.2.2 k.size⟩
def TBoxOk (E : TypeId) (w0 : World) (t : Strp) (ok : Bool) (s6 s7 : Value) (W : World) : Prop := ∃ B x y lo hi, s6 = .pointer (some ⟨B, 0, none⟩) ∧ s7 = .bool ok ∧ W.cell? ⟨B, 0, none⟩ = some x ∧ W.cell? ⟨B, 1, none⟩ = some y ∧ B < W.heap.size ∧ w0.heap.size ≤ B ∧
  OwnT E W lo hi x y t ∧ w0.heap.size ≤ lo ∧ hi ≤ W.heap.size ∧ (B < lo ∨ hi ≤ B) ∧ TurnIn 0 0 w0 W
theorem tbox_new {E : TypeId} {w0 X : World} {lo : Nat} {x y : Value} {t : Strp} {ok : Bool} {T : TypeId} (k : TurnIn 0 0 w0 X) (o : OwnT E X lo X.heap.size x y t) (h : w0.heap.size ≤ lo) : TBoxOk E w0 t ok (.pointer (some ⟨X.heap.size, 0, none⟩)) (.bool ok) (X.alloc (.cells #[x, y] T)) :=
  ⟨_, _, _, lo, X.heap.size, rfl, rfl, alloc_duo0 _ _ _ _, alloc_duo1 _ _ _ _, alloc_lt _ _, k.size, o.keep (turn_alloc _ _) (by omega), h, Nat.le_of_lt (alloc_lt _ _), .inr (Nat.le_refl _), turn_trans k (turn_alloc _ _) (by omega)⟩
theorem tbox_set {E : TypeId} {w0 X : World} {lo B : Nat} {x y p q : Value} {t : Strp} {ok : Bool} (b : BoxD B p q X) (hl : B < lo) (hB : w0.heap.size ≤ B) (k : TurnIn 0 0 w0 X) (o : OwnT E X lo X.heap.size x y t) :
    TBoxOk E w0 t ok (.pointer (some ⟨B, 0, none⟩)) (.bool ok) ((X.setCell ⟨B, 0, none⟩ x).setCell ⟨B, 1, none⟩ y) := by
  obtain ⟨b0, b1, _, _, b4⟩ := b
  have k0 := turn_setCell X B 0 x
  have k1 := turn_setCell (X.setCell ⟨B, 0, none⟩ x) B 1 y
  have e1 : (X.setCell ⟨B, 0, none⟩ x).cell? ⟨B, 1, none⟩ = some q := (World.cell?_setCell_other _ _ _ _ (by simp)).trans b1
  have s0 := k0.size
  have s1 := k1.size
  have hlo : w0.heap.size ≤ lo := by omega
  exact ⟨B, x, y, lo, X.heap.size, rfl, rfl, (World.cell?_setCell_other _ _ _ _ (by simp)).trans (World.cell?_setCell_same _ _ _ b0), World.cell?_setCell_same _ _ _ e1, by omega, hB, (o.keep k0 (by omega)).keep k1 (by omega), hlo, by omega, .inl hl, TurnIn.of_below ((k.to_below.setCell (p := ⟨B, 0, none⟩) hB _).setCell (p := ⟨B, 1, none⟩) hB _)⟩
/-- what the loads of a drawn region read: two boxes of two cells, in worlds that grew -/
def FourAt (w1 : World) (B C : Nat) (a b c d : Value) (W : World) : Prop := Below w1.heap.size w1 W ∧ W.cell? ⟨B, 0, none⟩ = some a ∧ W.cell? ⟨B, 1, none⟩ = some b ∧ W.cell? ⟨C, 0, none⟩ = some c ∧ W.cell? ⟨C, 1, none⟩ = some d
theorem four_below {w1 W : World} {B C : Nat} {a b c d : Value} (h1 : w1.cell? ⟨B, 0, none⟩ = some a) (h2 : w1.cell? ⟨B, 1, none⟩ = some b) (h3 : w1.cell? ⟨C, 0, none⟩ = some c) (h4 : w1.cell? ⟨C, 1, none⟩ = some d) (hB : B < w1.heap.size) (hC : C < w1.heap.size) (hb : Below w1.heap.size w1 W) : FourAt w1 B C a b c d W :=
  ⟨hb, (hb.cell (p := ⟨B, 0, none⟩) hB).trans h1, (hb.cell (p := ⟨B, 1, none⟩) hB).trans h2, (hb.cell (p := ⟨C, 0, none⟩) hC).trans h3, (hb.cell (p := ⟨C, 1, none⟩) hC).trans h4⟩
end G294

/- A list of texts of the call's own in a new box beside an empty one. -/
namespace G294
open Go Go.RowKit
def MBox (E : TypeId) (w0 : World) (D : List (List UInt8)) (s : Value) (W : World) : Prop := ∃ B x lo, s = .pointer (some ⟨B, 0, none⟩) ∧ BoxD B x (.slice none 0 0) W ∧ (∀ g, x.ownBlock = some g → g ≠ B) ∧ OwnStrs E W lo W.heap.size x D ∧ w0.heap.size ≤ lo ∧ w0.heap.size ≤ B ∧ TurnIn 0 0 w0 W
theorem mbox_new {E : TypeId} {w0 X : World} {lo : Nat} {x : Value} {D : List (List UInt8)} {T : TypeId} (k : TurnIn 0 0 w0 X) (o : OwnStrs E X lo X.heap.size x D) (h : w0.heap.size ≤ lo) : MBox E w0 D (.pointer (some ⟨X.heap.size, 0, none⟩)) (X.alloc (.cells #[x, .slice none 0 0] T)) := by
  refine ⟨_, x, lo, rfl, boxD_made (T := T) (TurnIn.refl _), fun g e => ?_, (o.keep (turn_alloc _ _) (by omega)).widerS (Nat.le_refl _) (Nat.le_of_lt (alloc_lt _ _)) (Nat.le_refl _), h, k.size, turn_trans k (turn_alloc _ _) (by omega)⟩
  have := o.2.2 g e
  omega
theorem mbox_set {E : TypeId} {w0 X : World} {lo B : Nat} {x p : Value} {D : List (List UInt8)} (b : BoxD B p (.slice none 0 0) X) (hx : ∀ g, x.ownBlock = some g → g ≠ B) (hB : w0.heap.size ≤ B) (k : TurnIn 0 0 w0 X) (o : OwnStrs E X lo X.heap.size x D) (h : w0.heap.size ≤ lo) :
    MBox E w0 D (.pointer (some ⟨B, 0, none⟩)) ((X.setCell ⟨B, 0, none⟩ x).setCell ⟨B, 1, none⟩ (.slice none 0 0)) := by
  obtain ⟨b0, b1, b2, b3, b4⟩ := b
  have e1 : (X.setCell ⟨B, 0, none⟩ x).cell? ⟨B, 1, none⟩ = some (.slice none 0 0) := (World.cell?_setCell_other _ _ _ _ (by simp)).trans b1
  have hz : ((X.setCell ⟨B, 0, none⟩ x).setCell ⟨B, 1, none⟩ (.slice none 0 0)).heap.size = X.heap.size := by simp
  have key : ∀ {W : World} {q : Nat} {z : Value}, OwnStrs E W lo X.heap.size x D → OwnStrs E (W.setCell ⟨B, q, none⟩ z) lo X.heap.size x D := by
    intro W q z hh
    obtain ⟨h1, h2, h3⟩ := hh
    have kk := turn_setCell W B q z
    refine ⟨⟨h1.1, ?_⟩, by simpa using h2, h3⟩
    rcases h1.2 with hn | ⟨g, cap, cur, rfl, hbg, hg, rest⟩
    · exact .inl hn
    · refine .inr ⟨g, cap, cur, rfl, hbg, ?_, rest⟩
      have := hx g rfl
      rw [kk.block g (Array.getElem?_eq_some_iff.1 hg).1 (by omega)]
      exact hg
  refine ⟨B, x, lo, rfl, ⟨(World.cell?_setCell_other _ _ _ _ (by simp)).trans (World.cell?_setCell_same _ _ _ b0), World.cell?_setCell_same _ _ _ e1, by simp [b2], by simp [b3], by rw [hz]; exact b4⟩, hx, ?_, h, hB, TurnIn.of_below ((k.to_below.setCell (p := ⟨B, 0, none⟩) hB _).setCell (p := ⟨B, 1, none⟩) hB _)⟩
  rw [hz]
  exact key (key o)
theorem textsF_succ (k : Nat) (F : Nat → List UInt8) : strs (textsF (k + 1) F) = strs (textsF k F) ++ [.string (str (F k))] := by
  simp [textsF, strs, List.range_succ]
end G294
namespace G294
open Go Go.RowKit
theorem boxD_grown {W W' : World} {B : Nat} {a b : Value} {row : Option Nat} (h : BoxD B a b W) (hg : W.grownBy W' row) (hne : row ≠ some B) : BoxD B a b W' := by
  obtain ⟨h0, h1, h2, h3, h4⟩ := h
  have k := TurnIn.refl W
  exact ⟨(cell_past k hg hne h4 0).trans h0, (cell_past k hg hne h4 1).trans h1, (frozen_past k hg hne h4 0).trans h2, (frozen_past k hg hne h4 1).trans h3, Nat.lt_of_lt_of_le h4 hg.size⟩
/-- a merged stripe grows in its box: its data stand, its parities are appended one by one -/
structure MInv (E : TypeId) (w wr : World) (B lo mid : Nat) (x o : Value) (D P : List (List UInt8)) (va vb vq : Value) : Prop where
  box : BoxD B x o wr
  data : OwnStrs E wr lo mid x D
  par : OwnStrs E wr mid wr.heap.size o P
  a0 : wr.cell? ⟨w.heap.size, 0, none⟩ = some va
  kept : Kept wr (w.heap.size + 1) (w.heap.size + 2) vb vq (.slice none 0 0) (.slice none 0 0)
  old : Below w.heap.size w wr
  hB : B < mid
  hlo : w.heap.size + 3 ≤ lo
  hB0 : w.heap.size + 3 ≤ B
  hne : ∀ g, x.ownBlock = some g → g ≠ B
theorem MInv.next {E : TypeId} {w wr X W1 : World} {B lo mid : Nat} {x o v' : Value} {D P P' : List (List UInt8)} {va vb vq : Value} (h : MInv E w wr B lo mid x o D P va vb vq) (k : TurnIn 0 0 wr X) (ho : W1.ownsRow mid E 1 v' P'.length (strs P')) (hg : X.grownBy W1 o.ownBlock) :
    MInv E w (W1.setCell ⟨B, 1, none⟩ v') B lo mid x v' D P' va vb vq := by
  have h1 := h.hB
  have h2 := h.hlo
  have h3 := h.hB0
  have h4 : mid ≤ wr.heap.size := h.data.2.1
  have s1 := k.size
  have s2 := hg.size
  have tA : TurnIn mid X.heap.size X W1 := TurnIn.of_grown (lo := mid) (hi := X.heap.size) hg (fun g e => ⟨(h.par.1.lt g e).1, by have := h.par.2.2 g e; omega⟩)
  have kS := turn_setCell W1 B 1 v'
  have cc : ∀ {C p : Nat} {z : Value}, wr.cell? ⟨C, p, none⟩ = some z → C < mid → W1.cell? ⟨C, p, none⟩ = some z := fun {C p z} hh hc => by
    have e1 := cell_turn k hh (by omega)
    exact (World.cell?_of_block (tA.block C (by omega) (by omega))).trans e1
  have ff : ∀ {C p : Nat}, wr.frozen? ⟨C, p, none⟩ = false → C < mid → W1.frozen? ⟨C, p, none⟩ = false := fun {C p} hh hc => by
    have e1 := frozen_turn k hh (by omega)
    have e2 := tA.block C (by omega) (by omega)
    simp only [World.frozen?, e2] at e1 ⊢
    exact e1
  obtain ⟨b0, b1, b2, b3, b4⟩ := h.box
  obtain ⟨x0, x1, r0, r1, f0, f1⟩ := h.kept
  have hne : ∀ {W : World} {q : Nat} {z : Value}, OwnStrs E W lo mid x D → OwnStrs E (W.setCell ⟨B, q, none⟩ z) lo mid x D := by
    intro W q z hh
    obtain ⟨g1, g2, g3⟩ := hh
    have kk := turn_setCell W B q z
    refine ⟨⟨g1.1, ?_⟩, by simpa using g2, g3⟩
    rcases g1.2 with hn | ⟨g, cap, cur, rfl, hbg, hg, rest⟩
    · exact .inl hn
    · refine .inr ⟨g, cap, cur, rfl, hbg, ?_, rest⟩
      have := h.hne g rfl
      rw [kk.block g (Array.getElem?_eq_some_iff.1 hg).1 (by omega)]
      exact hg
  have hz : (W1.setCell ⟨B, 1, none⟩ v').heap.size = W1.heap.size := by simp
  have hold : Below w.heap.size w W1 := (tA.base (k.base h.old (by omega) (by omega)) (by omega) (by omega))
  refine ⟨⟨(World.cell?_setCell_other _ _ _ _ (by simp)).trans (cc b0 h1), World.cell?_setCell_same _ _ _ (cc b1 h1), by simp [ff b2 h1], by simp [ff b3 h1], by rw [hz]; omega⟩, hne ((h.data.keep k (by omega)).keep tA (by omega)), ?_, (cell_set_other W1 _ _ _ (by omega)).trans (cc h.a0 (by omega)), ⟨(cell_set_other W1 _ _ _ (by omega)).trans (cc x0 (by omega)), (cell_set_other W1 _ _ _ (by omega)).trans (cc x1 (by omega)), (cell_set_other W1 _ _ _ (by omega)).trans (cc r0 (by omega)), (cell_set_other W1 _ _ _ (by omega)).trans (cc r1 (by omega)), (frozen_set_other W1 _ _ _ (by omega)).trans (ff f0 (by omega)), (frozen_set_other W1 _ _ _ (by omega)).trans (ff f1 (by omega))⟩, hold.setCell (p := ⟨B, 1, none⟩) (show w.heap.size ≤ B by omega) _, h1, h2, h3, h.hne⟩
  rw [hz]
  exact OwnStrs.keep (hi := W1.heap.size) ⟨ho, Nat.le_refl _, fun g e => (ho.lt g e).2⟩ kS (by omega)
end G294
