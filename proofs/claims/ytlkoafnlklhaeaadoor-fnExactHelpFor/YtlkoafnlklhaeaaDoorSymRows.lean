/- symmetricRows and MessageOf, the program's. -/
import Derived.Deep.RegionHeld3
import Derived.BigRegion
import Derived.Test.YtlkoafnlklhaeaaDoorMsgMath
import Derived.Test.YtlkoafnlklhaeaaDoorNewGrid
import Derived.Test.YtlkoafnlklhaeaaDoorFill2
import Derived.Test.YtlkoafnlklhaeaaDoorMsr
import Derived.Test.YtlkoafnlklhaeaaDoorCodeM
set_option linter.unusedSimpArgs false
set_option linter.unusedVariables false
namespace G294
open Go Go.RowKit
/-- a grid of the call's own, filled in place -/
structure Grid (E EE : TypeId) (w wr : World) (hi : Nat) (v : Value) (L : Mat) (vs : List Value) : Prop where
  own : OwnM E EE wr w.heap.size hi v L vs
  old : Below w.heap.size w wr
theorem Grid.congr {E EE : TypeId} {w wr : World} {hi : Nat} {v : Value} {L L' : Mat} {vs : List Value} (h : Grid E EE w wr hi v L vs) (e : L = L') : Grid E EE w wr hi v L' vs := e ▸ h
theorem Grid.drewN {E EE : TypeId} {w wr : World} {hi : Nat} {v : Value} {L : Mat} {vs : List Value} (h : Grid E EE w wr hi v L vs) (q : Nat) : Grid E EE w (wr.drewN q) hi v L vs := ⟨h.own.drewN q, below_drewN h.old q⟩
theorem Grid.storeF {E EE : TypeId} {w wr : World} {hi r c k j bb m cap' : Nat} {F : Ents} {x : UInt8} {v : Value} {vs : List Value} (h : Grid E EE w wr hi v (mkM r c F) vs) (hk : k < r) (hu : vs[k]? = some (.slice (some ⟨bb, 0, none⟩) m cap')) :
    Grid E EE w (wr.setCell ⟨bb, j, none⟩ (.int .u8 (x.toNat : Int))) hi v (mkM r c fun i jj => if i = k ∧ jj = j then x else F i jj) vs := by
  have ho := h.own.rows k _ hu
  have h1 := (ho.1.lt bb rfl).1
  exact ⟨h.own.storeF hk hu, h.old.setCell (show w.heap.size ≤ bb by omega) _⟩
def msgOk (n k : Int) (l : List UInt8) : Bool := msrOk n k && decide ((l.length : Int) = k * (k - 1))
def msgR (n k : Int) (l : List UInt8) : Mat := if msgOk n k l = true then msgM (k - 1).toNat l else []
theorem msgR_no {n k : Int} {l : List UInt8} (h : msgOk n k l = false) : msgR n k l = [] := if_neg (by rw [h]; simp)
theorem msgR_yes {n : Int} {a : Nat} {l : List UInt8} (h : msgOk n ((a : Int) + 1) l = true) : msgR n ((a : Int) + 1) l = msgM a l := by unfold msgR; rw [if_pos h]; congr 1; omega
theorem msgR_siz (n k : Int) (l : List UInt8) : sizM (msgR n k l) ≤ 256 := by
  unfold msgR; split
  · rename_i h
    simp only [msgOk, Bool.and_eq_true] at h
    have := msrOk_b h.1
    exact sizM_side _ (by omega) (by omega)
  · simp [sizM]
/-- a code that is valid: K is one more than alpha -/
theorem msr_alpha {n k : Int} (h : msrOk n k = true) : ∃ a : Nat, k = (a : Int) + 1 ∧ 1 ≤ a ∧ a ≤ 3 ∧ 2 * (a : Int) + 1 ≤ n ∧ n ≤ 14 ∧ msrA n k = (a : Int) ∧ msrD n k = ((2 * a : Nat) : Int) ∧ msrB n k = ((2 * off a a : Nat) : Int) ∧ k * (k - 1) = ((2 * off a a : Nat) : Int) := by
  have hb := msrOk_b h
  have h1 := msrA_yes h
  have h2 := msrD_yes h
  have h3 := msrB_yes h
  rcases msrOk_k h with rfl | rfl | rfl
  · exact ⟨1, rfl, by omega, by omega, by omega, by omega, h1, h2, h3, rfl⟩
  · exact ⟨2, rfl, by omega, by omega, by omega, by omega, h1, h2, h3, rfl⟩
  · exact ⟨3, rfl, by omega, by omega, by omega, by omega, h1, h2, h3, rfl⟩
theorem off_half {a : Nat} (h1 : 1 ≤ a) (h2 : a ≤ 3) : 1 ≤ off a a ∧ off a a ≤ 6 := by
  have : a = 1 ∨ a = 2 ∨ a = 3 := by omega
  rcases this with rfl | rfl | rfl <;> exact ⟨by decide, by decide⟩
theorem Seen.front {w : World} {b o n c h : Nat} {xs : List Value} (hv : Seen w (.slice (some ⟨b, o, none⟩) n c) xs) (hh : h ≤ xs.length) : Seen w (.slice (some ⟨b, o, none⟩) h c) (xs.take h) := by
  obtain ⟨A, c', e, h1, h2, h3⟩ := hv
  simp only [Value.slice.injEq] at e
  obtain ⟨rfl, rfl, rfl⟩ := e
  refine ⟨some ⟨b, o, none⟩, c, by simp [Nat.min_eq_left hh], by simp; omega, h2, fun hp => ?_⟩
  simp only [List.length_take] at hp
  obtain ⟨b', o', e, hb, hc⟩ := h3 (by omega)
  refine ⟨b', o', e, hb, fun i x hx => hc i x ?_⟩
  rw [List.getElem?_take] at hx
  split at hx
  · exact hx
  · cases hx
theorem Seen.back {w : World} {b o n c h : Nat} {xs : List Value} (hv : Seen w (.slice (some ⟨b, o, none⟩) n c) xs) (hh : h < xs.length) : Seen w (.slice (some ⟨b, o + h, none⟩) (n - h) (c - h)) (xs.drop h) := by
  obtain ⟨A, c', e, h1, h2, h3⟩ := hv
  simp only [Value.slice.injEq] at e
  obtain ⟨rfl, rfl, rfl⟩ := e
  obtain ⟨b', o', e, hb, hc⟩ := h3 (by omega)
  simp only [Option.some.injEq, Addr.mk.injEq, and_true] at e
  obtain ⟨rfl, rfl⟩ := e
  refine ⟨some ⟨b, o + h, none⟩, c - h, by simp, by simp; omega, by omega, fun hp => ⟨b, o + h, rfl, hb, fun i x hx => ?_⟩⟩
  rw [List.getElem?_drop] at hx
  have := hc _ x hx
  rwa [← Nat.add_assoc] at this
end G294
namespace Go.Proofs.YtlkoafnlklhaeaaDoor
open Go.RowKit G294

set_option maxHeartbeats 1000000 in
theorem symZeroAt (r c : Nat) (w : World) : GivesAt Tryd.prog 182 #[] r c (fun _ _ => 0) w := by
  intro W i j hb hi hj
  go_enter Tryd.func182, Tryd.ntmps182
  go_wp2_with fail
  go_ret
  exact ⟨rfl, 0, rfl⟩

set_option maxRecDepth 100000 in
set_option maxHeartbeats 2000000 in
theorem symmetricRows_own (a : Nat) (v : Value) (l : List UInt8) (w : World) (hv : Seen w v (bys l)) (h1 : 1 ≤ a) (h2 : a ≤ 3) (hl : l.length = off a a) :
    Calls Tryd.prog 147 #[.int .i64 a, v] w (RetM 5 24 w (mkM a a (symF a l 0))) := by
  obtain ⟨A, cv, rfl, hlc, hcm, hx⟩ := hv
  rw [bys_length] at hlc hx
  simp only [bys_length]
  unfold maxLen at hcm
  have h6 : 2 * off a a = (a + 1) * a := off_three h1 h2
  have hnn6 : l.length ≤ 6 := by
    have : (a + 1) * a ≤ 4 * 3 := Nat.mul_le_mul (by omega) h2
    omega
  have h6' := Lib.hid h6
  clear h6
  have hpos : 0 < l.length := by
    have := tix_lt (a := a) (p := 0) (q := 0) (by omega) (by omega); omega
  obtain ⟨b, o, rfl, hbl, hcell⟩ := hx hpos
  generalize hnn : l.length = n at *
  have HN := Lib.hid hnn
  have HX := Lib.hid hcell
  have HL := Lib.hid hl
  clear hnn hx hcell hl hpos
  have HG := Lib.hid (symZeroAt a a w)
  have eg := enters_of Tryd.func182 (by kernel_rfl) rfl
  go_enter Tryd.func147, Tryd.ntmps147
  go_wp2_with fail
  refine (newGridB a a _ _ _ _ eg HG.out (by omega) (by omega)).mono ?_
  rintro e w1 ⟨u, vs, rfl, hM, ht⟩
  obtain ⟨g, cp, rfl, hg1, hg2, hg3, hg4⟩ := hM.sliceF h1
  have hs1 := ht.size
  have HF0 : Hid (Grid 5 24 w w1 w1.heap.size (.slice (some ⟨g, 0, none⟩) a cp) (mkM a a (symP a l 0 0 0)) vs) := ⟨hM.congr (mkM_congr fun i j _ _ => (symP_zero _ _ _ _ _).symm), ht.to_below⟩
  generalize hHi : w1.heap.size = Hi at *
  clear hM ht hHi
  unfold maxLen at hg4
  go_wp2_with fail
  go_loopw [6, 13] (fun x i wr => ∃ p : Nat, p ≤ a ∧ i = .int .i64 p ∧ x = .int .i64 (tix a p p) ∧ Hid (Grid 5 24 w wr Hi (.slice (some ⟨g, 0, none⟩) a cp) (mkM a a (symP a l 0 p p)) vs))
    (fun _ i _ => a - (intOf i).toNat)
  case atStart => exact ⟨0, Nat.zero_le _, rfl, rfl, HF0.out⟩
  case round =>
    obtain ⟨p, hp, rfl, rfl, HF⟩ := hrel
    by_cases hlt : p < a
    · have hpi : (p : Int) < (a : Int) := by omega
      have HFP := Lib.hid HF.out
      have hxp : tix a p p < off a a := tix_lt (Nat.le_refl _) hlt
      rw [← HL.out] at hxp
      go_wp2_with fail
      go_loopw [6, 8] (fun x i wr => ∃ q : Nat, p ≤ q ∧ q ≤ a ∧ i = .int .i64 q ∧ x = .int .i64 (tix a p q) ∧ Hid (Grid 5 24 w wr Hi (.slice (some ⟨g, 0, none⟩) a cp) (mkM a a (symP a l 0 p q)) vs))
        (fun _ i _ => a - (intOf i).toNat)
      case atStart => exact ⟨p, Nat.le_refl _, hp, rfl, rfl, HFP.out⟩
      case round =>
        clear HFP HF hxp
        obtain ⟨q, hpq, hq, rfl, rfl, HF⟩ := hrel
        by_cases hltq : q < a
        · have hqi : (q : Int) < (a : Int) := by omega
          have hxq : tix a p q < off a a := tix_lt hpq hltq
          rw [← HL.out] at hxq
          have HT := Lib.hid (tix_next (a := a) hpq)
          have hkl : tix a p q < l.length := by rw [HN.out]; exact hxq
          have hcx := HX.out (tix a p q) _ (bys_get l (tix a p q) hkl)
          have HLX : Hid (l.getD (0 + tix a p q) 0 = l[tix a p q]) := by show _ = _; rw [Nat.zero_add]; simp [List.getD, hkl]
          generalize hxx : l[tix a p q] = x at *
          have hcxr : wr.cell? ⟨b, o + tix a p q, none⟩ = some (.int .u8 (x.toNat : Int)) := (HF.out.old.cell (p := ⟨b, o + tix a p q, none⟩) hbl).trans hcx
          generalize htt : tix a p q = t at *
          have HTT := Lib.hid htt
          clear hxx hcx htt
          obtain ⟨b1, cp1, hu1, e1, e2, e3, e4, e5, hfz1, hcell1⟩ := HF.out.own.rowF p hlt (by omega)
          obtain ⟨b2, cp2, hu2, f1, f2, f3, f4, f5, hfz2, hcell2⟩ := HF.out.own.rowF q hltq (by omega)
          have hco1 := HF.out.own.cellAt hu1
          have hco2 := HF.out.own.cellAt hu2
          have hc1 := hcell1 q hltq
          have hc2 := hcell2 p hlt
          have hfr1 := hfz1 q
          have hfr2 := hfz2 p
          have HST := Lib.hid (((HF.out.storeF (j := q) (x := x) hlt hu1).storeF (j := p) (x := x) hltq hu2).congr (L' := mkM a a (symP a l 0 p (q + 1))) (mkM_congr fun i j _ _ => by
            rw [← symP_step a l 0 p q hpq i j, HTT.out, HLX.out]))
          have hob := HF.out.old.size
          have n1 : g ≠ b1 := fun e => e3 (by rw [e]; rfl)
          have n2 : g ≠ b2 := fun e => f3 (by rw [e]; rfl)
          have n1' : b1 ≠ g := fun e => n1 e.symm
          have n2' : b2 ≠ g := fun e => n2 e.symm
          have m1 : b ≠ b1 := by omega
          have m2 : b ≠ b2 := by omega
          have m1' : b1 ≠ b := by omega
          have m2' : b2 ≠ b := by omega
          have hp0 : (0 : Int) ≤ (p : Int) := Int.natCast_nonneg _
          have hq0 : (0 : Int) ≤ (q : Int) := Int.natCast_nonneg _
          have ht0 : (0 : Int) ≤ (t : Int) := Int.natCast_nonneg _
          have hti : (t : Int) < (n : Int) := by omega
          unfold maxLen at e5 f5
          by_cases hb12 : b1 = b2
          · subst hb12
            have hpq2 : p = q := ((HF.out.own.apart p _ b1 hu1 rfl).2 q _ hu2 rfl).symm
            subst hpq2
            clear HF hfz1 hfz2 hcell1 hcell2 e3 f3
            go_wp2_with fail
            go_region
            go_wp2_with fail
            go_roundw
            case rel => exact ⟨p + 1, by omega, by omega, by go_num, by rw [HT.out]; go_num, HST.out.drewN 1⟩
            case measure => simp [intOf]; omega
          · have hb21 : b2 ≠ b1 := fun e => hb12 e.symm
            clear HF hfz1 hfz2 hcell1 hcell2 e3 f3
            go_wp2_with fail
            go_region
            go_wp2_with fail
            go_roundw
            case rel => exact ⟨q + 1, by omega, by omega, by go_num, by rw [HT.out]; go_num, HST.out.drewN 1⟩
            case measure => simp [intOf]; omega
        · obtain rfl : q = a := by omega
          have hqi : ¬ (q : Int) < (q : Int) := by omega
          have HT := Lib.hid (tix_row hlt)
          go_wp2_with fail
          go_roundw
          case rel => exact ⟨p + 1, by omega, by go_num, by rw [HT.out], HF.out.congr (mkM_congr fun i j hi hj => symP_row hi hj)⟩
          case measure => simp [intOf]; omega
    · obtain rfl : p = a := by omega
      have hpi : ¬ (p : Int) < (p : Int) := by omega
      go_wp2_with fail
      go_ret
      exact ⟨_, _, rfl, (HF.out.own.congr (mkM_congr fun i j hi hj => symP_all hi hj)).wider (by omega) HF.out.own.top (Nat.le_refl _), TurnIn.of_below HF.out.old⟩

set_option maxRecDepth 100000 in
set_option maxHeartbeats 2000000 in
theorem messageOf_own (n k : Int) (v : Value) (l : List UInt8) (w : World) (hv : Seen w v (bys l)) :
    Calls Tryd.prog 81 #[msrV n k, v] w (RetMatOk 5 24 w (msgR n k l) (msgOk n k l)) := by
  have HV := Lib.hid hv
  obtain ⟨A, c, hvv⟩ := hv.len
  rw [bys_length] at hvv
  subst hvv
  clear hv
  have hb0 : Below w.heap.size w ((w.alloc (.cells #[.int .i64 n, .int .i64 k] 27)).alloc (.cells #[.slice none 0 0] 70)) := ((Below.refl _ _).alloc (Nat.le_refl _) _).alloc (by simp) _
  have hz0 : ((w.alloc (.cells #[.int .i64 n, .int .i64 k] 27)).alloc (.cells #[.slice none 0 0] 70)).heap.size = w.heap.size + 2 := by simp
  have c0 : ((w.alloc (.cells #[.int .i64 n, .int .i64 k] 27)).alloc (.cells #[.slice none 0 0] 70)).cell? ⟨w.heap.size + 1, 0, none⟩ = some (.slice none 0 0) := by simp
  have f0 : ((w.alloc (.cells #[.int .i64 n, .int .i64 k] 27)).alloc (.cells #[.slice none 0 0] 70)).frozen? ⟨w.heap.size + 1, 0, none⟩ = false := by simp
  by_cases h : msrOk n k = true
  · have HO := Lib.hid h
    obtain ⟨a, rfl, h1, h2, -, -, eA, eD, eB, eK⟩ := msr_alpha h
    have HA := Lib.hid eA
    have HD := Lib.hid eD
    have HB := Lib.hid eB
    have hoff := off_half h1 h2
    clear h eA eD eB
    by_cases hl : l.length = 2 * off a a
    · have HK : Hid (msgOk n ((a : Int) + 1) l = true) := by show msgOk _ _ _ = true; simp only [msgOk, HO.out, eK, hl]; simp
      have HR := Lib.hid (msgR_yes HK.out)
      have HL := Lib.hid hl
      rw [hl] at HV ⊢
      clear eK
      obtain ⟨b, o, rfl⟩ : ∃ b o, A = some ⟨b, o, none⟩ := by
        obtain ⟨A', c', e, _, _, h3⟩ := HV.out
        obtain ⟨b, o, e2, _⟩ := h3 (by rw [bys_length]; omega)
        simp only [Value.slice.injEq] at e
        exact ⟨b, o, e.1.trans e2⟩
      have hc2 : 2 * off a a ≤ c := by
        obtain ⟨A', c', e, h3, _⟩ := HV.out
        simp only [Value.slice.injEq] at e
        rw [bys_length] at h3; omega
      have HV1 := Lib.hid (HV.out.front (h := off a a) (by rw [bys_length]; omega))
      have HV2 := Lib.hid (HV.out.back (h := off a a) (by rw [bys_length]; omega))
      have HE := Lib.hid (msgM_eq a l)
      have HL1 : Hid ((l.take (off a a)).length = off a a) := by show _ = _; simp; omega
      have HL2 : Hid ((l.drop (off a a)).length = off a a) := by show _ = _; simp; omega
      have HT1 : Hid ((bys l).take (off a a) = bys (l.take (off a a))) := by show _ = _; simp [bys]
      have HT2 : Hid ((bys l).drop (off a a) = bys (l.drop (off a a))) := by show _ = _; simp [bys]
      clear hl
      generalize hd : off a a = d at *
      have hq : (((2 * d : Nat) : Int)) / 2 = (d : Int) := by omega
      have hne : ((((2 * d : Nat) : Int)) != (((2 * d : Nat) : Int))) = false := by simp
      generalize hs : 2 * d = s at *
      have hsd1 : s ≤ d + d := by omega
      have hsd2 : d + d ≤ s := by omega
      have HSS := Lib.hid hs
      have HDD := Lib.hid hd
      clear hs hd
      have hcm : c ≤ maxLen := by
        obtain ⟨A', c', e, _, h3, _⟩ := HV.out
        simp only [Value.slice.injEq] at e
        omega
      unfold maxLen at hcm
      have HV0 := Lib.hid hb0
      have hnb : decide ((d : Int) < 0) = false := by simp
      go_enter Tryd.func81, Tryd.ntmps81
      go_wp2_with fail
      refine (msrSizes_any n ((a : Int) + 1) _).mono ?_
      rintro e w1 ⟨rfl, k1⟩
      rw [HO.out, HA.out, HB.out]
      have hs1 := k1.size
      have hb1 := k1.base HV0.out (by omega) (by omega)
      replace c0 := cell_turn k1 c0 (by omega)
      replace f0 := frozen_turn k1 f0 (by omega)
      go_wp2_with fail
      refine (symmetricRows_own a _ (l.take d) _ ((HT1.out ▸ HV1.out).below hb1) h1 h2 (by rw [HL1.out, HDD.out])).mono ?_
      rintro e w2 ⟨v1, vs1, rfl, hM1, k2⟩
      obtain ⟨g1, cp1, rfl, hg1, hg1', hcp1, hcp1'⟩ := hM1.sliceF h1
      have hs2 := k2.size
      have hb2 := k2.base hb1 (by omega) (by omega)
      replace c0 := cell_turn k2 c0 (by omega)
      replace f0 := frozen_turn k2 f0 (by omega)
      have HM1 := Lib.hid hM1
      clear hM1
      go_wp2_with fail
      refine (symmetricRows_own a _ (l.drop d) _ ((HT2.out ▸ HV2.out).below hb2) h1 h2 (by rw [HL2.out, HDD.out])).mono ?_
      rintro e w3 ⟨v2, vs2, rfl, hM2, k3⟩
      obtain ⟨g2, cp2, rfl, hg2, hg2', hcp2, hcp2'⟩ := hM2.sliceF h1
      have hs3 := k3.size
      have hb3 := k3.base hb2 (by omega) (by omega)
      replace c0 := cell_turn k3 c0 (by omega)
      replace f0 := frozen_turn k3 f0 (by omega)
      have hM1 := HM1.out.keep k3 (by omega)
      have hyl : vs2.length = a := by have := hM2.vlen; simpa using this
      have hr1 : w3.ownsRow w1.heap.size 24 1 (.slice (some ⟨g1, 0, none⟩) a cp1) a vs1 := by have := hM1.row; simpa using this
      have HYS : Hid (∀ j y, vs2[j]? = some y → w3.cell? ((⟨g2, 0, none⟩ : Addr).add j) = some y) := fun j y hj => by rw [Addr.add_lit, Nat.zero_add]; exact hM2.cellAt hj
      have HY1 := Lib.hid (rows_oneC hM2)
      have HM1' := Lib.hid hM1
      have HM2 := Lib.hid hM2
      have HR0 := Lib.hid hr1
      clear hM1 hM2 hr1 HM1
      go_wp2_with (at_builtin; refine wpList_appendN rfl _ _ _ rfl w1.heap.size 24 _ _ Tryd.underlying68 infoRowB rfl _ a vs1 rfl HR0.out ⟨g2, 0, none⟩ a cp2 vs2 rfl hyl HYS.out HY1.out ?c1 ?c2 ?c3 ?_)
      case c1 => omega
      case c2 => omega
      case c3 => omega
      intro v' w4 hown hg hv
      obtain ⟨A', n', cp', rfl⟩ := own_isSlice hown
      have hM3 := (HM1'.out.join HM2.out (by omega) (by omega) (by simpa using hown) hg hv).congr HE.out
      have k4 : TurnIn w1.heap.size w2.heap.size w3 w4 := TurnIn.of_grown hg (fun g e => by simp [Value.ownBlock] at e; omega)
      have hs4 := k4.size
      have hb4 := k4.base hb3 (by omega) (by omega)
      have hq0 : w4.cell? ⟨w.heap.size + 1, 0, none⟩ = some (.slice none 0 0) := box_keep c0 (by omega) k4 (by omega)
      have hqf : w4.frozen? ⟨w.heap.size + 1, 0, none⟩ = false := by
        have e := k4.block (w.heap.size + 1) (by omega) (by omega)
        unfold World.frozen? at f0 ⊢
        rw [e]; exact f0
      clear hown hg hv c0 f0
      go_wp2_with fail
      refine bodyPost_ret (v := .tuple #[.agg #[.slice A' n' cp'], .bool true]) (by simp [results, Tryd.results81, go_sem, hq0]) rfl ?_
      have kk := turn_setCell w4 (w.heap.size + 1) 0 (.slice A' n' cp')
      refine ⟨.slice A' n' cp', vs1 ++ vs2, by rw [HK.out], ?_, TurnIn.of_below (hb4.setCell (show w.heap.size ≤ w.heap.size + 1 by omega) _)⟩
      rw [HR.out]
      exact (hM3.keep kk (by omega)).wider (by omega) (by simp) (by simp)
    · have HK : Hid (msgOk n ((a : Int) + 1) l = false) := by
        show msgOk _ _ _ = false
        simp only [msgOk, HO.out, eK, Bool.true_and, decide_eq_false_iff_not]; omega
      have HR := Lib.hid (msgR_no HK.out)
      clear eK
      generalize hd : off a a = d at *
      generalize hs : 2 * d = s at *
      have hne : (((l.length : Nat) : Int) != (s : Int)) = true := by simp; omega
      go_enter Tryd.func81, Tryd.ntmps81
      go_wp2_with fail
      refine (msrSizes_any n ((a : Int) + 1) _).mono ?_
      rintro e w1 ⟨rfl, k1⟩
      rw [HO.out, HA.out, HB.out]
      have hs1 := k1.size
      have hb1 := k1.base hb0 (by omega) (by omega)
      replace c0 := cell_turn k1 c0 (by omega)
      replace f0 := frozen_turn k1 f0 (by omega)
      go_wp2_with fail
      refine bodyPost_ret (v := .tuple #[.agg #[.slice none 0 0], .bool false]) (by simp [results, Tryd.results81, go_sem, c0]) rfl ?_
      exact ⟨_, [], by rw [HK.out], by rw [HR.out]; exact OwnM.nil _ _ _ _, TurnIn.of_below (hb1.setCell (show w.heap.size ≤ w.heap.size + 1 by omega) _)⟩
  · have HO : Hid (msrOk n k = false) := by show msrOk n k = false; simpa using h
    have HK : Hid (msgOk n k l = false) := by show msgOk _ _ _ = false; simp only [msgOk, HO.out, Bool.false_and]
    have HR := Lib.hid (msgR_no HK.out)
    clear h
    go_enter Tryd.func81, Tryd.ntmps81
    go_wp2_with fail
    refine (msrSizes_any n k _).mono ?_
    rintro e w1 ⟨rfl, k1⟩
    rw [HO.out]
    have hs1 := k1.size
    have hb1 := k1.base hb0 (by omega) (by omega)
    replace c0 := cell_turn k1 c0 (by omega)
    replace f0 := frozen_turn k1 f0 (by omega)
    go_wp2_with fail
    refine bodyPost_ret (v := .tuple #[.agg #[.slice none 0 0], .bool false]) (by simp [results, Tryd.results81, go_sem, c0]) rfl ?_
    exact ⟨_, [], by rw [HK.out], by rw [HR.out]; exact OwnM.nil _ _ _ _, TurnIn.of_below (hb1.setCell (show w.heap.size ≤ w.heap.size + 1 by omega) _)⟩

end Go.Proofs.YtlkoafnlklhaeaaDoor
