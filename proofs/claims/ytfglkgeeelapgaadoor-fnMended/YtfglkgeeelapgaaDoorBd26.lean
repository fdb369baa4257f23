/- Joined texts: Chg1. -/
import Derived.Deep.RegionHeld3
import Derived.Deep.CutRange
import Derived.Test.YtfglkgeeelapgaaDoorBd22
import Derived.Test.YtfglkgeeelapgaaDoorBd21
import Derived.Test.YtfglkgeeelapgaaDoorBd24
set_option linter.unusedSimpArgs false
set_option linter.unusedVariables false
/- ChangeStripe, the program's. -/
namespace G294
open Go Go.RowKit
/-- four cells of a new box -/
def FourBox (w0 : World) (a b c d : Value) (s : Value) (W : World) : Prop := ∃ B, s = .pointer (some ⟨B, 0, none⟩) ∧ W.cell? ⟨B, 0, none⟩ = some a ∧ W.cell? ⟨B, 1, none⟩ = some b ∧ W.cell? ⟨B, 2, none⟩ = some c ∧ W.cell? ⟨B, 3, none⟩ = some d ∧ B < W.heap.size ∧ TurnIn 0 0 w0 W
/-- a new stripe in a new box that is none of its blocks -/
def NewBox (E : TypeId) (w0 : World) (D P : List (List UInt8)) (s : Value) (W : World) : Prop := ∃ B x y, s = .pointer (some ⟨B, 0, none⟩) ∧ W.cell? ⟨B, 0, none⟩ = some x ∧ W.cell? ⟨B, 1, none⟩ = some y ∧ (∀ g, x.ownBlock = some g → g ≠ B) ∧ OwnT E W w0.heap.size W.heap.size x y (D, P) ∧ w0.heap.size ≤ B ∧ B < W.heap.size ∧ TurnIn 0 0 w0 W
theorem four_new {w0 X : World} {a b c d : Value} {T : TypeId} (k : TurnIn 0 0 w0 X) : FourBox w0 a b c d (.pointer (some ⟨X.heap.size, 0, none⟩)) (X.alloc (.cells #[a, b, c, d] T)) := by
  obtain ⟨z0, z1, z2, z3⟩ := alloc4 X a b c d T
  exact ⟨_, rfl, z0, z1, z2, z3, alloc_lt _ _, turn_trans k (turn_alloc _ _) (by omega)⟩
/-- the box was made ahead, and its cells are stored now -/
theorem four_set {w0 W : World} {B : Nat} {a b c d x0 x1 x2 x3 : Value} (z0 : W.cell? ⟨B, 0, none⟩ = some x0) (z1 : W.cell? ⟨B, 1, none⟩ = some x1) (z2 : W.cell? ⟨B, 2, none⟩ = some x2) (z3 : W.cell? ⟨B, 3, none⟩ = some x3) (hB : B < W.heap.size) (k : TurnIn 0 0 w0 W) (h0 : w0.heap.size ≤ B) :
    FourBox w0 a b c d (.pointer (some ⟨B, 0, none⟩)) ((((W.setCell ⟨B, 0, none⟩ a).setCell ⟨B, 1, none⟩ b).setCell ⟨B, 2, none⟩ c).setCell ⟨B, 3, none⟩ d) := by
  have y1 : (W.setCell ⟨B, 0, none⟩ a).cell? ⟨B, 1, none⟩ = some x1 := (World.cell?_setCell_other _ _ _ _ (by simp)).trans z1
  have y2 : ((W.setCell ⟨B, 0, none⟩ a).setCell ⟨B, 1, none⟩ b).cell? ⟨B, 2, none⟩ = some x2 := (World.cell?_setCell_other _ _ _ _ (by simp)).trans ((World.cell?_setCell_other _ _ _ _ (by simp)).trans z2)
  have y3 : (((W.setCell ⟨B, 0, none⟩ a).setCell ⟨B, 1, none⟩ b).setCell ⟨B, 2, none⟩ c).cell? ⟨B, 3, none⟩ = some x3 := (World.cell?_setCell_other _ _ _ _ (by simp)).trans ((World.cell?_setCell_other _ _ _ _ (by simp)).trans ((World.cell?_setCell_other _ _ _ _ (by simp)).trans z3))
  refine ⟨B, rfl, ?_, ?_, ?_, ?_, by simpa using hB, TurnIn.of_below ((((k.to_below.setCell (p := ⟨B, 0, none⟩) h0 _).setCell (p := ⟨B, 1, none⟩) h0 _).setCell (p := ⟨B, 2, none⟩) h0 _).setCell (p := ⟨B, 3, none⟩) h0 _)⟩
  · exact (World.cell?_setCell_other _ _ _ _ (by simp)).trans ((World.cell?_setCell_other _ _ _ _ (by simp)).trans ((World.cell?_setCell_other _ _ _ _ (by simp)).trans (World.cell?_setCell_same _ _ _ z0)))
  · exact (World.cell?_setCell_other _ _ _ _ (by simp)).trans ((World.cell?_setCell_other _ _ _ _ (by simp)).trans (World.cell?_setCell_same _ _ _ y1))
  · exact (World.cell?_setCell_other _ _ _ _ (by simp)).trans (World.cell?_setCell_same _ _ _ y2)
  · exact World.cell?_setCell_same _ _ _ y3
theorem own_set_other {E : TypeId} {W : World} {lo hi B o : Nat} {x z : Value} {l : List (List UInt8)} (h : OwnStrs E W lo hi x l) (hne : ∀ g, x.ownBlock = some g → g ≠ B) : OwnStrs E (W.setCell ⟨B, o, none⟩ z) lo hi x l := by
  obtain ⟨h1, h2, h3⟩ := h
  have k := turn_setCell W B o z
  refine ⟨⟨h1.1, ?_⟩, by simpa using h2, h3⟩
  rcases h1.2 with hn | ⟨g, cap, cur, rfl, hbg, hg, rest⟩
  · exact .inl hn
  · refine .inr ⟨g, cap, cur, rfl, hbg, ?_, rest⟩
    have := hne g rfl
    rw [k.block g (Array.getElem?_eq_some_iff.1 hg).1 (by omega)]
    exact hg
theorem newbox_new {E : TypeId} {w0 X : World} {x y : Value} {D P : List (List UInt8)} {T : TypeId} (k : TurnIn 0 0 w0 X) (o : OwnT E X w0.heap.size X.heap.size x y (D, P)) : NewBox E w0 D P (.pointer (some ⟨X.heap.size, 0, none⟩)) (X.alloc (.cells #[x, y] T)) := by
  refine ⟨_, _, _, rfl, alloc_duo0 _ _ _ _, alloc_duo1 _ _ _ _, fun g e => ?_, (o.keep (turn_alloc _ _) (by omega)).wider (Nat.le_refl _) (Nat.le_of_lt (alloc_lt _ _)) (Nat.le_refl _), k.size, alloc_lt _ _, turn_trans k (turn_alloc _ _) (by omega)⟩
  obtain ⟨mid, h1, h2, h3, h4⟩ := o
  have e1 := h3.2.2 g e
  have e2 := h4.2.1
  omega
theorem newbox_set {E : TypeId} {w0 X : World} {B : Nat} {x y p q : Value} {D P : List (List UInt8)} (b : BoxD B p q X) (hx : ∀ g, x.ownBlock = some g → g ≠ B) (hy : ∀ g, y.ownBlock = some g → g ≠ B) (hB : w0.heap.size ≤ B) (k : TurnIn 0 0 w0 X) (o : OwnT E X w0.heap.size X.heap.size x y (D, P)) :
    NewBox E w0 D P (.pointer (some ⟨B, 0, none⟩)) ((X.setCell ⟨B, 0, none⟩ x).setCell ⟨B, 1, none⟩ y) := by
  obtain ⟨b0, b1, _, _, b4⟩ := b
  have e1 : (X.setCell ⟨B, 0, none⟩ x).cell? ⟨B, 1, none⟩ = some q := (World.cell?_setCell_other _ _ _ _ (by simp)).trans b1
  obtain ⟨mid, h1, h2, h3, h4⟩ := o
  have hz : ((X.setCell ⟨B, 0, none⟩ x).setCell ⟨B, 1, none⟩ y).heap.size = X.heap.size := by simp
  refine ⟨B, x, y, rfl, (World.cell?_setCell_other _ _ _ _ (by simp)).trans (World.cell?_setCell_same _ _ _ b0), World.cell?_setCell_same _ _ _ e1, hx, ⟨mid, h1, by rw [hz]; exact h2, own_set_other (own_set_other h3 hx) hx, ?_⟩, hB, by rw [hz]; exact b4, TurnIn.of_below ((k.to_below.setCell (p := ⟨B, 0, none⟩) hB _).setCell (p := ⟨B, 1, none⟩) hB _)⟩
  rw [hz]
  exact own_set_other (own_set_other h4 hy) hy
end G294
namespace Go.Proofs.YtfglkgeeelapgaaDoor
open Go.RowKit G294

set_option maxRecDepth 100000 in
set_option maxHeartbeats 8000000 in
theorem changeStripe_own (v u : Value) (s : Strp) (i : Int) (t : List UInt8) (w : World) (hv : Seen w v (strs s.1)) (hu : Seen w u (strs s.2)) (htl : t.length ≤ 1048576) (ht : Tab w) (h0 : 2 < w.heap.size) :
    Calls Tryd.prog 25 #[.agg #[v, u], .int .i64 i, .string (str t)] w (RetTOk 9 w (chgR s i t) (chgOk s i t)) := by
  have HV0 := Lib.hid hv
  have HU0 := Lib.hid hu
  obtain ⟨A, c, hvv⟩ := hv.len
  obtain ⟨B, d, huu⟩ := hu.len
  rw [strs_length] at hvv huu
  subst hvv huu
  have a1 := turn_alloc w (.cells #[.slice A s.1.length c, .slice B s.2.length d] 25)
  have a2 := turn_alloc (w.alloc (.cells #[.slice A s.1.length c, .slice B s.2.length d] 25)) (.cells #[.slice none 0 0, .slice none 0 0] 25)
  have z2 : ((w.alloc (.cells #[.slice A s.1.length c, .slice B s.2.length d] 25)).alloc (.cells #[.slice none 0 0, .slice none 0 0] 25)).heap.size = w.heap.size + 2 := by simp
  have c0 := cell_turn a2 (alloc_duo0 w (.slice A s.1.length c) (.slice B s.2.length d) 25) (alloc_lt _ _)
  have c1 := cell_turn a2 (alloc_duo1 w (.slice A s.1.length c) (.slice B s.2.length d) 25) (alloc_lt _ _)
  have r0 := alloc_duo0 (w.alloc (.cells #[.slice A s.1.length c, .slice B s.2.length d] 25)) (.slice none 0 0) (.slice none 0 0) 25
  have r1 := alloc_duo1 (w.alloc (.cells #[.slice A s.1.length c, .slice B s.2.length d] 25)) (.slice none 0 0) (.slice none 0 0) 25
  have f0 := alloc_frz (w.alloc (.cells #[.slice A s.1.length c, .slice B s.2.length d] 25)) #[.slice none 0 0, .slice none 0 0] 25 0
  have f1 := alloc_frz (w.alloc (.cells #[.slice A s.1.length c, .slice B s.2.length d] 25)) #[.slice none 0 0, .slice none 0 0] 25 1
  rw [World.size_alloc] at r0 r1 f0 f1
  have k2 := turn_trans a1 a2 (by omega)
  have HG := Lib.hid (goodStripe_any _ _ s _ (hv.touch k2) (hu.touch k2))
  have HK2 := Lib.hid k2
  have HTT := Lib.hid ht
  have HDEF : Hid (chgOk s i t = (strpOk s && (decide (0 ≤ i ∧ i < (s.1.length : Int)) && decide (t.length = firstLen s)))) := Lib.hid rfl
  have HNO : Hid (chgOk s i t = false → chgR s i t = ([], [])) := Lib.hid chgR_no
  have hsz2 : w.heap.size + 2 ≤ ((w.alloc (.cells #[.slice A s.1.length c, .slice B s.2.length d] 25)).alloc (.cells #[.slice none 0 0, .slice none 0 0] 25)).heap.size := by omega
  clear hv hu a1 a2 z2 ht k2
  by_cases h1 : strpOk s = true
  · have H1 := Lib.hid h1
    have b1 := strpOk_b h1
    rw [H1.out] at HG
    by_cases hi : 0 ≤ i
    · obtain ⟨j, rfl⟩ := Int.eq_ofNat_of_zero_le hi
      by_cases hj : j < s.1.length
      · obtain ⟨b, off, cc, hvv, hbl, hlm, hcx⟩ := seen_at HV0.out hj
        obtain ⟨rfl, rfl⟩ : A = some ⟨b, off, none⟩ ∧ c = cc := by simpa using hvv
        have HLJ := Lib.hid (strp_len1 h1 hj)
        have hst := str_size t
        have hsx := str_size (s.1.getD j [])
        rw [HLJ.out] at hsx
        have h40 := strp_len40 h1
        have hji : (j : Int) < (s.1.length : Int) := by omega
        have hjd : ¬ (s.1.length : Int) ≤ (j : Int) := by omega
        have hj0 : decide ((j : Int) < 0) = false := decide_eq_false (by omega)
        have hj00 : ¬ (j : Int) < 0 := by omega
        obtain ⟨x, hx⟩ : ∃ x, x = s.1.getD j [] := ⟨_, rfl⟩
        have HX := Lib.hid hx
        rw [← hx] at hcx hsx
        clear hvv hi hx
        by_cases hl : t.length = firstLen s
        · have HO : Hid (chgOk s j t = true) := Lib.hid (by rw [HDEF.out, h1]; simp [hl, hj])
          obtain ⟨df, hD⟩ : ∃ df, df = plusL x 1 t := ⟨_, rfl⟩
          have HDD := Lib.hid hD
          obtain ⟨FF, hFF⟩ : ∃ F : Nat → List UInt8, F = fun k => plusL (s.2.getD k []) (prmF k j) df := ⟨_, rfl⟩
          have HFF := Lib.hid hFF
          have HR : Hid (chgR s j t = (s.1.set j t, textsF s.2.length FF)) := Lib.hid (by rw [chgR_yes HO.out, hFF, hD, HX.out]; rfl)
          clear hFF
          clear hD
          have HXL : Hid (x.length = t.length) := Lib.hid (by rw [HX.out, HLJ.out, hl])
          rw [hl] at hst
          rw [HO.out, HR.out]
          have HLEN : Hid (∀ k, k < s.2.length → (s.2.getD k []).length = t.length) := Lib.hid (fun k hk => by rw [strp_len2 h1 hk, hl])
          have HBIG : Hid (∀ y ∈ s.1, y.length ≤ 1000000) := Lib.hid (fun y hy => by have := (strpOk_len h1).1 y hy; have h4 : (s.1.getD 0 []).length ≤ 40 := (strpOk_len h1).2.2; omega)
          have ht40 : t.length ≤ 40 := by omega
          have hne : ((firstLen s : Int) != (firstLen s : Int)) = false := by simp
          obtain ⟨n, hn⟩ : ∃ n, n = s.1.length := ⟨_, rfl⟩
          obtain ⟨m, hm⟩ : ∃ m, m = s.2.length := ⟨_, rfl⟩
          have HN := Lib.hid hn
          have HM := Lib.hid hm
          have bn : 1 ≤ n ∧ n ≤ 16 := by omega
          have bm : 1 ≤ m ∧ m ≤ 4 := by omega
          have hjn : j < n := by omega
          have hjd2 : decide (n ≤ j) = false := decide_eq_false (by omega)
          rw [← hn] at c0 c1 r0 r1 f0 f1 hsz2 HG HK2 HV0 hji hjd hlm ⊢
          rw [← hm] at c0 c1 r0 r1 f0 f1 hsz2 HG HK2 HU0 ⊢
          generalize firstLen s = lf at *
          clear h1 b1 hl hj HDEF HNO hn hm
          go_enter Tryd.func25, Tryd.ntmps25
          go_wp2_with fail
          refine HG.out.mono ?_
          rintro e w3 ⟨rfl, k3⟩
          generalize ((w.alloc (.cells #[.slice (some ⟨b, off, none⟩) n c, .slice B m d] 25)).alloc (.cells #[.slice none 0 0, .slice none 0 0] 25)) = w2 at *
          have s3 := k3.size
          replace c0 := cell_turn k3 c0 (by omega)
          replace c1 := cell_turn k3 c1 (by omega)
          replace r0 := cell_turn k3 r0 (by omega)
          replace r1 := cell_turn k3 r1 (by omega)
          replace f0 := frozen_turn k3 f0 (by omega)
          replace f1 := frozen_turn k3 f1 (by omega)
          have k03 := turn_trans HK2.out k3 (by omega)
          replace hcx := cell_turn k03 hcx hbl
          have hz3 : w.heap.size + 2 ≤ w3.heap.size := by omega
          have hb3 : b < w3.heap.size := Nat.lt_of_lt_of_le hbl k03.size
          have HV3 := Lib.hid (HV0.out.touch k03)
          have HU3 := Lib.hid (HU0.out.touch k03)
          have HT3 := Lib.hid (HTT.out.below k03.to_below h0)
          have HP : Hid (Calls Tryd.prog 73 #[.string (str x), .int .u8 1, .string (str t)] w3.drew (RetStr w3.drew df)) := Lib.hid (by rw [HDD.out]; exact plusTimes_own x t 1 w3.drew HXL.out.symm (by rw [HXL.out]; omega) (show Tab w3.drew from HT3.out) (show _ < w3.heap.size by omega))
          have HPA : Hid (Calls Tryd.prog 73 #[.string (str x), .int .u8 1, .string (str t)] (w3.alloc (.cells #[.slice none 0 0, .slice none 0 0, .int .i64 0, .string ⟨#[]⟩] 89)).drew (RetStr (w3.alloc (.cells #[.slice none 0 0, .slice none 0 0, .int .i64 0, .string ⟨#[]⟩] 89)).drew df)) := Lib.hid (by rw [HDD.out]; exact plusTimes_own x t 1 (w3.alloc (.cells #[.slice none 0 0, .slice none 0 0, .int .i64 0, .string ⟨#[]⟩] 89)).drew HXL.out.symm (by rw [HXL.out]; omega) (show Tab (w3.alloc (.cells #[.slice none 0 0, .slice none 0 0, .int .i64 0, .string ⟨#[]⟩] 89)).drew from HT3.out.below (turn_alloc _ _).to_below.drew (by omega)) (Nat.lt_of_lt_of_le (show _ < w3.heap.size by omega) (turn_alloc w3 _).size))
          clear HG
          have HDL : Hid (df.length = t.length) := Lib.hid (by rw [HDD.out, plusL_length, HXL.out])
          have hS0 : w3.drew.cell? ⟨w.heap.size, 0, none⟩ = some (.slice (some ⟨b, off, none⟩) n c) ∧ w3.drew.cell? ⟨w.heap.size, 1, none⟩ = some (.slice B m d) ∧ w3.drew.cell? ⟨b, off + j, none⟩ = some (.string (str x)) := ⟨c0, c1, hcx⟩
          have HSX : Hid (∀ W, Below w3.heap.size w3 W → (W.cell? ⟨w.heap.size, 0, none⟩ = some (.slice (some ⟨b, off, none⟩) n c) ∧ W.cell? ⟨w.heap.size, 1, none⟩ = some (.slice B m d) ∧ W.cell? ⟨b, off + j, none⟩ = some (.string (str x)))) := Lib.hid (fun W hb => ⟨(hb.cell (p := ⟨w.heap.size, 0, none⟩) (show w.heap.size < w3.heap.size by omega)).trans c0, (hb.cell (p := ⟨w.heap.size, 1, none⟩) (show w.heap.size < w3.heap.size by omega)).trans c1, (hb.cell (p := ⟨b, off + j, none⟩) hb3).trans hcx⟩)
          obtain ⟨zz0, zz1, zz2, zz3⟩ := alloc4 w3 (.slice none 0 0) (.slice none 0 0) (.int .i64 0) (.string ⟨#[]⟩) 89
          have HZZ := Lib.hid (And.intro zz0 (And.intro zz1 (And.intro zz2 zz3)))
          clear zz0 zz1 zz2 zz3
          go_wp2_with fail
          go_cut [8] from 36 to 45 (fun s8 wx => FourBox w3 (.slice (some ⟨b, off, none⟩) n c) (.slice B m d) (.int .i64 j) (.string (str df)) s8 wx)
          case first =>
            go_region_held3 (fun W => W.cell? ⟨w.heap.size, 0, none⟩ = some (.slice (some ⟨b, off, none⟩) n c) ∧ W.cell? ⟨w.heap.size, 1, none⟩ = some (.slice B m d) ∧ W.cell? ⟨b, off + j, none⟩ = some (.string (str x)))
              (first | exact hS0 | exact HSX.out _ ((Below.refl _ _).alloc (Nat.le_refl _) _) | exact HSX.out _ ((Below.refl _ _).alloc (Nat.le_refl _) _).drew | exact HSX.out _ hb4 | exact HSX.out _ (hb4.alloc hb4.size _) | exact HSX.out _ ((((hb4.setCell (p := ⟨w3.heap.size, 0, none⟩) (Nat.le_refl _) _).setCell (p := ⟨w3.heap.size, 1, none⟩) (Nat.le_refl _) _).setCell (p := ⟨w3.heap.size, 2, none⟩) (Nat.le_refl _) _).setCell (p := ⟨w3.heap.size, 3, none⟩) (Nat.le_refl _) _))
              (first
                | (go_at_call 73; (with_reducible refine HP.out.mono ?_); rintro e w4 ⟨rfl, k4⟩; have k34 := undrew k4; have hb4 := k34.to_below)
                | (go_at_call 73; (with_reducible refine HPA.out.mono ?_); rintro e w4 ⟨rfl, k4⟩; have kA := undrew k4; have hb4 := (turn_trans (turn_alloc w3 (.cells #[.slice none 0 0, .slice none 0 0, .int .i64 0, .string ⟨#[]⟩] 89)) kA (by omega)).to_below; have z0 := cell_turn kA HZZ.out.1 (alloc_lt _ _); have z1 := cell_turn kA HZZ.out.2.1 (alloc_lt _ _); have z2 := cell_turn kA HZZ.out.2.2.1 (alloc_lt _ _); have z3 := cell_turn kA HZZ.out.2.2.2 (alloc_lt _ _); have y0 := frozen_turn kA (alloc_frz w3 #[.slice none 0 0, .slice none 0 0, .int .i64 0, .string ⟨#[]⟩] 89 0) (alloc_lt _ _); have y1 := frozen_turn kA (alloc_frz w3 #[.slice none 0 0, .slice none 0 0, .int .i64 0, .string ⟨#[]⟩] 89 1) (alloc_lt _ _); have y2 := frozen_turn kA (alloc_frz w3 #[.slice none 0 0, .slice none 0 0, .int .i64 0, .string ⟨#[]⟩] 89 2) (alloc_lt _ _); have y3 := frozen_turn kA (alloc_frz w3 #[.slice none 0 0, .slice none 0 0, .int .i64 0, .string ⟨#[]⟩] 89 3) (alloc_lt _ _)))
            all_goals
              go_wp2_with fail
              go_meet
              first
                | exact four_new (TurnIn.of_below hb4)
                | exact four_set z0 z1 z2 z3 (Nat.lt_of_lt_of_le (alloc_lt _ _) kA.size) (TurnIn.of_below hb4) (Nat.le_refl _)
          case rest =>
            obtain ⟨B8, rfl, q0, q1, q2, q3, hB8, k5⟩ := hcut
            generalize hwc : wc = w5 at *
            clear hwc HSX HZZ hS0 HP HPA
            have s5 := k5.size
            replace c0 := cell_turn k5 c0 (by omega)
            replace c1 := cell_turn k5 c1 (by omega)
            replace r0 := cell_turn k5 r0 (by omega)
            replace r1 := cell_turn k5 r1 (by omega)
            replace f0 := frozen_turn k5 f0 (by omega)
            replace f1 := frozen_turn k5 f1 (by omega)
            have k05 := turn_trans k03 k5 (by omega)
            have HV5 := Lib.hid (HV3.out.touch k5)
            have HU5 := Lib.hid (HU3.out.touch k5)
            have HT5 := Lib.hid (HTT.out.below k05.to_below h0)
            have eg := enters_of Tryd.func74 (by kernel_rfl) rfl
            have HC : Hid (∀ W, Below w5.heap.size w5 W → Calls Tryd.prog 46 #[.slice (some ⟨b, off, none⟩) n c] W (RetStrs 9 W s.1)) := Lib.hid (fun W hb => copiesOf_own _ s.1 W (HV5.out.below hb) (by rw [← HN.out]; omega) HBIG.out)
            have HB : Hid (∀ W, Below w5.heap.size w5 W → Calls Tryd.prog 48 #[.int .i64 m, .func (.func 74) #[.agg #[.slice (some ⟨b, off, none⟩) n c, .slice B m d, .int .i64 j, .string (str df)]] #[]] W (RetStrs 9 W (textsF m FF))) := Lib.hid (fun W hb => textsBy_own m _ _ _ W eg (fun W' i hb' hi => by
              rw [HFF.out]
              have hbb := hb.trans (hb'.mono hb.size)
              exact changeText_own j _ _ s.1 s.2 df i W' (HV5.out.below hbb) (HU5.out.below hbb) (by omega) (by rw [← HM.out]; exact hi) (by omega) (by rw [HDL.out, HLEN.out i (by rw [← HM.out]; exact hi)]) (by rw [HLEN.out i (by rw [← HM.out]; exact hi)]; omega) (HT5.out.below hbb (by omega)) (by have := hbb.size; omega)) (by omega))
            have hS0 : Below w5.heap.size w5 w5.drew ∧ w5.drew.cell? ⟨w.heap.size, 0, none⟩ = some (.slice (some ⟨b, off, none⟩) n c) ∧ w5.drew.cell? ⟨w.heap.size, 1, none⟩ = some (.slice B m d) ∧ w5.drew.cell? ⟨B8, 0, none⟩ = some (.slice (some ⟨b, off, none⟩) n c) ∧ w5.drew.cell? ⟨B8, 1, none⟩ = some (.slice B m d) ∧ w5.drew.cell? ⟨B8, 2, none⟩ = some (.int .i64 j) ∧ w5.drew.cell? ⟨B8, 3, none⟩ = some (.string (str df)) := ⟨(Below.refl _ _).drew, c0, c1, q0, q1, q2, q3⟩
            have HSX : Hid (∀ W, Below w5.heap.size w5 W → (Below w5.heap.size w5 W ∧ W.cell? ⟨w.heap.size, 0, none⟩ = some (.slice (some ⟨b, off, none⟩) n c) ∧ W.cell? ⟨w.heap.size, 1, none⟩ = some (.slice B m d) ∧ W.cell? ⟨B8, 0, none⟩ = some (.slice (some ⟨b, off, none⟩) n c) ∧ W.cell? ⟨B8, 1, none⟩ = some (.slice B m d) ∧ W.cell? ⟨B8, 2, none⟩ = some (.int .i64 j) ∧ W.cell? ⟨B8, 3, none⟩ = some (.string (str df)))) := Lib.hid (fun W hb => ⟨hb, (hb.cell (p := ⟨w.heap.size, 0, none⟩) (show w.heap.size < w5.heap.size by omega)).trans c0, (hb.cell (p := ⟨w.heap.size, 1, none⟩) (show w.heap.size < w5.heap.size by omega)).trans c1, (hb.cell (p := ⟨B8, 0, none⟩) hB8).trans q0, (hb.cell (p := ⟨B8, 1, none⟩) hB8).trans q1, (hb.cell (p := ⟨B8, 2, none⟩) hB8).trans q2, (hb.cell (p := ⟨B8, 3, none⟩) hB8).trans q3⟩)
            go_wp2_with fail
            go_cut [9] from 46 to 55 (fun s9 wx => NewBox 9 w5 s.1 (textsF m FF) s9 wx)
            case first =>
              go_region_held3 (fun W => Below w5.heap.size w5 W ∧ W.cell? ⟨w.heap.size, 0, none⟩ = some (.slice (some ⟨b, off, none⟩) n c) ∧ W.cell? ⟨w.heap.size, 1, none⟩ = some (.slice B m d) ∧ W.cell? ⟨B8, 0, none⟩ = some (.slice (some ⟨b, off, none⟩) n c) ∧ W.cell? ⟨B8, 1, none⟩ = some (.slice B m d) ∧ W.cell? ⟨B8, 2, none⟩ = some (.int .i64 j) ∧ W.cell? ⟨B8, 3, none⟩ = some (.string (str df)))
                (first | exact hS0 | exact HSX.out _ ((Below.refl _ _).alloc (Nat.le_refl _) _) | exact HSX.out _ ((Below.refl _ _).alloc (Nat.le_refl _) _).drew | exact HSX.out _ hb6 | exact HSX.out _ (hb6.alloc hb6.size _) | exact HSX.out _ hb7 | exact HSX.out _ (hb7.alloc hb7.size _) | exact HSX.out _ ((hb7.setCell (p := ⟨w5.heap.size, 0, none⟩) (Nat.le_refl _) _).setCell (p := ⟨w5.heap.size, 1, none⟩) (Nat.le_refl _) _) | exact HSX.out _ ((hb7.setCell (p := ⟨w6.heap.size, 0, none⟩) s6 _).setCell (p := ⟨w6.heap.size, 1, none⟩) s6 _))
                (first
                  | (go_at_call 46; refine (HC.out _ (And.left (by assumption))).mono ?_; rintro e w6 ⟨u6, rfl, o6, k6⟩; obtain ⟨A6, n6, c6, rfl⟩ := o6.isSlice; have hb6 : Below w5.heap.size w5 w6 := k6.base (And.left (by assumption)) (Below.size (And.left (by assumption))) (by omega); have s6 := hb6.size; (first | (have fb := boxD_made k6; have hbe := alloc_lt w5 (.cells #[.slice none 0 0, .slice none 0 0] 25); obtain ⟨b0, b1, b2, b3, b4⟩ := fb) | (have fb := boxD_made (undrew k6); have hbe := alloc_lt w5 (.cells #[.slice none 0 0, .slice none 0 0] 25); obtain ⟨b0, b1, b2, b3, b4⟩ := fb) | skip))
                  | (go_at_call 48; refine (HB.out _ (And.left (by assumption))).mono ?_; rintro e w7 ⟨u7, rfl, o7, k7⟩; obtain ⟨A7, n7, c7, rfl⟩ := o7.isSlice; have k67 : TurnIn 0 0 w6 w7 := (by first | exact k7 | exact turn_trans (turn_alloc _ _) k7 (by omega)); have s67 := k67.size; have hb7 : Below w5.heap.size w5 w7 := k67.base hb6 s6 (by omega); (first | (have hbo := b4; have fb := boxD_kept ⟨b0, b1, b2, b3, b4⟩ k7; obtain ⟨b0, b1, b2, b3, b4⟩ := fb) | (have hbo := alloc_lt w6 (.cells #[.slice none 0 0, .slice none 0 0] 25); have fb := boxD_made k7; obtain ⟨b0, b1, b2, b3, b4⟩ := fb) | skip)))
              all_goals
                have hO : OwnT 9 w7 w5.heap.size w7.heap.size (.slice A6 n6 c6) (.slice A7 n7 c7) (s.1, textsF m FF) := ⟨w6.heap.size, s6, s67, (o6.keep k67 (by omega)).widerS (by first | exact Nat.le_refl _ | exact Nat.le_of_lt hbe) (Nat.le_refl _) (by omega), o7.widerS (by first | exact Nat.le_refl _ | exact Nat.le_of_lt (alloc_lt _ _)) (Nat.le_refl _) (Nat.le_refl _)⟩
                go_wp2_with fail
                go_meet
                first
                  | exact newbox_new (TurnIn.of_below hb7) hO
                  | exact newbox_set ⟨b0, b1, b2, b3, b4⟩ (fun g e => by have e1 := (o6.1.lt g e).1; have e2 := o6.2.2 g e; first | omega | (replace e1 : (w5.alloc (.cells #[.slice none 0 0, .slice none 0 0] 25)).heap.size ≤ g := e1; omega)) (fun g e => by have e1 := (o7.1.lt g e).1; omega) (by omega) (TurnIn.of_below hb7) hO
            case rest =>
              obtain ⟨B9, x9, y9, rfl, p0, p1, hne, hO, hB9, hB9', k8⟩ := hcut
              generalize hwc : wc = w8 at *
              clear hwc HSX hS0 HC HB c0 c1 q0 q1 q2 q3
              have s8 := k8.size
              replace r0 := cell_turn k8 r0 (by omega)
              replace r1 := cell_turn k8 r1 (by omega)
              replace f0 := frozen_turn k8 f0 (by omega)
              replace f1 := frozen_turn k8 f1 (by omega)
              obtain ⟨mid, hl1, hl2, oD, oP⟩ := hO
              obtain ⟨gd, cpd, rfl, hg1, hg2, hcp, hcm, hcell, hfz⟩ := oD.shape (by rw [← HN.out]; exact bn.1)
              rw [← HN.out] at oD p0 hcp hcell
              obtain ⟨AP, np, cpp, rfl⟩ := oP.isSlice
              have hng : gd ≠ B9 := hne gd rfl
              have hco := hcell j hjn
              have hfr := hfz j
              unfold maxLen at hcm
              have HCL := Lib.hid (clone_own t w8.drew (by omega))
              have HSY : Hid (∀ W, TurnIn 0 0 w8 W → W.cell? ⟨B9, 0, none⟩ = some (.slice (some ⟨gd, 0, none⟩) n cpd)) := Lib.hid (fun W tt => cell_turn tt p0 hB9')
              have HOD := Lib.hid oD
              have HOP := Lib.hid oP
              clear hcell hfz oD oP hne
              go_wp2_with fail
              go_region_held3 (fun W => W.cell? ⟨B9, 0, none⟩ = some (.slice (some ⟨gd, 0, none⟩) n cpd))
                (first | exact p0 | exact HSY.out _ k9 | exact (cell_set_other _ _ _ _ hng).trans (HSY.out _ k9))
                ((go_at_call 75; refine HCL.out.mono ?_; rintro e w9 ⟨rfl, k9'⟩; have k9 := undrew k9'; have s9 := k9.size; have d0 := cell_turn k9 p0 hB9'; have d1 := cell_turn k9 p1 hB9'; have e0 := cell_turn k9 hco (by omega); have e1 := frozen_turn k9 hfr (by omega)))
              all_goals
                have kst := turn_setCell w9 gd j (.string (str t))
                have d0' := (cell_set_other w9 (B := gd) (B' := B9) j 0 (.string (str t)) hng).trans d0
                have d1' := (cell_set_other w9 (B := gd) (B' := B9) j 1 (.string (str t)) hng).trans d1
                have t0 := (cell_set_other w9 (B := gd) (B' := w.heap.size + 1) j 0 (.string (str t)) (by omega)).trans (cell_turn k9 r0 (by omega))
                have t1 := (cell_set_other w9 (B := gd) (B' := w.heap.size + 1) j 1 (.string (str t)) (by omega)).trans (cell_turn k9 r1 (by omega))
                have v0 := (frozen_set_other w9 (B := gd) (B' := w.heap.size + 1) j 0 (.string (str t)) (by omega)).trans (frozen_turn k9 f0 (by omega))
                have v1 := (frozen_set_other w9 (B := gd) (B' := w.heap.size + 1) j 1 (.string (str t)) (by omega)).trans (frozen_turn k9 f1 (by omega))
                have hO2 : OwnT 9 (w9.setCell ⟨gd, j, none⟩ (.string (str t))) w5.heap.size w8.heap.size (.slice (some ⟨gd, 0, none⟩) n cpd) (.slice AP np cpp) (s.1.set j t, textsF m FF) := ⟨mid, hl1, hl2, (HOD.out.keep k9 (by omega)).store HN.out.symm rfl, (HOP.out.keep k9 (by omega)).keep kst (by omega)⟩
                have hbl9 : Below w.heap.size w (w9.setCell ⟨gd, j, none⟩ (.string (str t))) := (turn_trans (turn_trans k05 k8 (by omega)) k9 (by omega)).to_below.setCell (p := ⟨gd, j, none⟩) (show w.heap.size ≤ gd by omega) _
                have HF := Lib.hid (duo_store (R := w.heap.size + 1) hO2 hbl9 (by omega) (by omega) (by omega))
                clear hO2 hbl9 kst d0 d1
                go_wp2_with fail
                refine bodyPost_ret (v := .tuple #[.agg #[.slice (some ⟨gd, 0, none⟩) n cpd, .slice AP np cpp], .bool true]) (by simp [results, Tryd.results25, go_sem, t0, t1, v0, v1]) rfl ?_
                exact ⟨_, _, rfl, HF.out.1, HF.out.2⟩
        · have HO : Hid (chgOk s j t = false) := Lib.hid (by rw [HDEF.out]; simp [hl])
          have hne : ((t.length : Int) != (firstLen s : Int)) = true := by simp; omega
          rw [HO.out, HNO.out HO.out]
          generalize firstLen s = lf at *
          generalize t.length = lt at *
          clear h1 b1 hl HDEF HNO
          go_enter Tryd.func25, Tryd.ntmps25
          go_wp2_with fail
          refine HG.out.mono ?_
          rintro e w3 ⟨rfl, k3⟩
          have s3 := k3.size
          replace c0 := cell_turn k3 c0 (by omega)
          replace c1 := cell_turn k3 c1 (by omega)
          replace r0 := cell_turn k3 r0 (by omega)
          replace r1 := cell_turn k3 r1 (by omega)
          replace f0 := frozen_turn k3 f0 (by omega)
          replace f1 := frozen_turn k3 f1 (by omega)
          replace hcx := cell_turn (turn_trans HK2.out k3 (by omega)) hcx hbl
          have HF := Lib.hid (duo_store (R := w.heap.size + 1) (OwnT.nil 9 w3 (w.heap.size + 2) (by omega)) (turn_trans HK2.out k3 (by omega)).to_below (by omega) (by omega) (by omega))
          go_wp2_with fail
          refine bodyPost_ret (v := .tuple #[.agg #[.slice none 0 0, .slice none 0 0], .bool false]) (by simp [results, Tryd.results25, go_sem, r0, r1, f0, f1]) rfl ?_
          exact ⟨_, _, rfl, HF.out.1, HF.out.2⟩
      · have HO : Hid (chgOk s j t = false) := Lib.hid (by rw [HDEF.out]; simp [show ¬ ((j : Int) < (s.1.length : Int)) by omega])
        have hjl : (s.1.length : Int) ≤ (j : Int) := by omega
        have hj0 : decide ((j : Int) < 0) = false := decide_eq_false (by omega)
        have hj00 : ¬ (j : Int) < 0 := by omega
        rw [HO.out, HNO.out HO.out]
        clear h1 b1 hj hi HDEF HNO
        go_enter Tryd.func25, Tryd.ntmps25
        go_wp2_with fail
        refine HG.out.mono ?_
        rintro e w3 ⟨rfl, k3⟩
        have s3 := k3.size
        replace c0 := cell_turn k3 c0 (by omega)
        replace c1 := cell_turn k3 c1 (by omega)
        replace r0 := cell_turn k3 r0 (by omega)
        replace r1 := cell_turn k3 r1 (by omega)
        replace f0 := frozen_turn k3 f0 (by omega)
        replace f1 := frozen_turn k3 f1 (by omega)
        have HF := Lib.hid (duo_store (R := w.heap.size + 1) (OwnT.nil 9 w3 (w.heap.size + 2) (by omega)) (turn_trans HK2.out k3 (by omega)).to_below (by omega) (by omega) (by omega))
        go_wp2_with fail
        refine bodyPost_ret (v := .tuple #[.agg #[.slice none 0 0, .slice none 0 0], .bool false]) (by simp [results, Tryd.results25, go_sem, r0, r1, f0, f1]) rfl ?_
        exact ⟨_, _, rfl, HF.out.1, HF.out.2⟩
    · have HO : Hid (chgOk s i t = false) := Lib.hid (by rw [HDEF.out]; simp [show ¬ (0 ≤ i) from hi])
      have hj0 : i < 0 := by omega
      rw [HO.out, HNO.out HO.out]
      clear h1 b1 hi HDEF HNO
      go_enter Tryd.func25, Tryd.ntmps25
      go_wp2_with fail
      refine HG.out.mono ?_
      rintro e w3 ⟨rfl, k3⟩
      have s3 := k3.size
      replace c0 := cell_turn k3 c0 (by omega)
      replace c1 := cell_turn k3 c1 (by omega)
      replace r0 := cell_turn k3 r0 (by omega)
      replace r1 := cell_turn k3 r1 (by omega)
      replace f0 := frozen_turn k3 f0 (by omega)
      replace f1 := frozen_turn k3 f1 (by omega)
      have HF := Lib.hid (duo_store (R := w.heap.size + 1) (OwnT.nil 9 w3 (w.heap.size + 2) (by omega)) (turn_trans HK2.out k3 (by omega)).to_below (by omega) (by omega) (by omega))
      go_wp2_with fail
      refine bodyPost_ret (v := .tuple #[.agg #[.slice none 0 0, .slice none 0 0], .bool false]) (by simp [results, Tryd.results25, go_sem, r0, r1, f0, f1]) rfl ?_
      exact ⟨_, _, rfl, HF.out.1, HF.out.2⟩
  · have H1 : Hid (strpOk s = false) := Lib.hid (by simpa using h1)
    have HO : Hid (chgOk s i t = false) := Lib.hid (by rw [HDEF.out, H1.out]; simp)
    rw [H1.out] at HG
    rw [HO.out, HNO.out HO.out]
    clear h1 HDEF HNO
    go_enter Tryd.func25, Tryd.ntmps25
    go_wp2_with fail
    refine HG.out.mono ?_
    rintro e w3 ⟨rfl, k3⟩
    have s3 := k3.size
    replace c0 := cell_turn k3 c0 (by omega)
    replace c1 := cell_turn k3 c1 (by omega)
    replace r0 := cell_turn k3 r0 (by omega)
    replace r1 := cell_turn k3 r1 (by omega)
    replace f0 := frozen_turn k3 f0 (by omega)
    replace f1 := frozen_turn k3 f1 (by omega)
    have HF := Lib.hid (duo_store (R := w.heap.size + 1) (OwnT.nil 9 w3 (w.heap.size + 2) (by omega)) (turn_trans HK2.out k3 (by omega)).to_below (by omega) (by omega) (by omega))
    go_wp2_with fail
    refine bodyPost_ret (v := .tuple #[.agg #[.slice none 0 0, .slice none 0 0], .bool false]) (by simp [results, Tryd.results25, go_sem, r0, r1, f0, f1]) rfl ?_
    exact ⟨_, _, rfl, HF.out.1, HF.out.2⟩

end Go.Proofs.YtfglkgeeelapgaaDoor
