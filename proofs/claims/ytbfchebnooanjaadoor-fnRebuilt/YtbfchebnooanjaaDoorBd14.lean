/- Joined texts: SpecReduce. -/
import Derived.Test.YtbfchebnooanjaaDoorBd13
import Derived.Test.YtbfchebnooanjaaDoorBd05
import Derived.Test.YtbfchebnooanjaaDoorBd06
import Derived.Test.YtbfchebnooanjaaDoorBd07
import Derived.Test.YtbfchebnooanjaaDoorBd12
set_option linter.unusedSimpArgs false
set_option linter.unusedVariables false
/- The model's l2Reduce. -/
namespace G294
open Go Go.RowKit
theorem new_cell (w : World) (v : Value) (T : TypeId) : (w.alloc (.cells #[v] T)).cell? ⟨w.heap.size, 0, none⟩ = some v := by simp
theorem new_frozen (w : World) (v : Value) (T : TypeId) : (w.alloc (.cells #[v] T)).frozen? ⟨w.heap.size, 0, none⟩ = false := by simp
theorem four (w : World) (a b c d : Value) (T : TypeId) : (((((w.alloc (.cells #[a] T)).alloc (.cells #[b] T)).alloc (.cells #[c] T)).alloc (.cells #[d] T)).cell? ⟨w.heap.size, 0, none⟩ = some a ∧ ((((w.alloc (.cells #[a] T)).alloc (.cells #[b] T)).alloc (.cells #[c] T)).alloc (.cells #[d] T)).cell? ⟨w.heap.size + 1, 0, none⟩ = some b ∧
    ((((w.alloc (.cells #[a] T)).alloc (.cells #[b] T)).alloc (.cells #[c] T)).alloc (.cells #[d] T)).cell? ⟨w.heap.size + 2, 0, none⟩ = some c ∧ ((((w.alloc (.cells #[a] T)).alloc (.cells #[b] T)).alloc (.cells #[c] T)).alloc (.cells #[d] T)).frozen? ⟨w.heap.size + 2, 0, none⟩ = false ∧
    ((((w.alloc (.cells #[a] T)).alloc (.cells #[b] T)).alloc (.cells #[c] T)).alloc (.cells #[d] T)).cell? ⟨w.heap.size + 3, 0, none⟩ = some d ∧ ((((w.alloc (.cells #[a] T)).alloc (.cells #[b] T)).alloc (.cells #[c] T)).alloc (.cells #[d] T)).frozen? ⟨w.heap.size + 3, 0, none⟩ = false) ∧
    ((((w.alloc (.cells #[a] T)).alloc (.cells #[b] T)).alloc (.cells #[c] T)).alloc (.cells #[d] T)).heap.size = w.heap.size + 4 ∧ TurnIn 0 0 w ((((w.alloc (.cells #[a] T)).alloc (.cells #[b] T)).alloc (.cells #[c] T)).alloc (.cells #[d] T)) := by
  have s1 : (w.alloc (.cells #[a] T)).heap.size = w.heap.size + 1 := by simp
  have s2 : ((w.alloc (.cells #[a] T)).alloc (.cells #[b] T)).heap.size = w.heap.size + 2 := by simp
  have s3 : (((w.alloc (.cells #[a] T)).alloc (.cells #[b] T)).alloc (.cells #[c] T)).heap.size = w.heap.size + 3 := by simp
  have s4 : ((((w.alloc (.cells #[a] T)).alloc (.cells #[b] T)).alloc (.cells #[c] T)).alloc (.cells #[d] T)).heap.size = w.heap.size + 4 := by simp
  have k1 := turn_alloc w (.cells #[a] T)
  have k2 := turn_alloc (w.alloc (.cells #[a] T)) (.cells #[b] T)
  have k3 := turn_alloc ((w.alloc (.cells #[a] T)).alloc (.cells #[b] T)) (.cells #[c] T)
  have k4 := turn_alloc (((w.alloc (.cells #[a] T)).alloc (.cells #[b] T)).alloc (.cells #[c] T)) (.cells #[d] T)
  have c1 := new_cell w a T
  have c2 := new_cell (w.alloc (.cells #[a] T)) b T
  have c3 := new_cell ((w.alloc (.cells #[a] T)).alloc (.cells #[b] T)) c T
  have f3 := new_frozen ((w.alloc (.cells #[a] T)).alloc (.cells #[b] T)) c T
  have c4 := new_cell (((w.alloc (.cells #[a] T)).alloc (.cells #[b] T)).alloc (.cells #[c] T)) d T
  have f4 := new_frozen (((w.alloc (.cells #[a] T)).alloc (.cells #[b] T)).alloc (.cells #[c] T)) d T
  rw [s1] at c2
  rw [s2] at c3 f3
  rw [s3] at c4 f4
  refine ⟨⟨?_, ?_, ?_, ?_, c4, f4⟩, s4, turn_trans (turn_trans (turn_trans k1 k2 (by omega)) k3 (by omega)) k4 (by omega)⟩
  · exact cell_turn k4 (cell_turn k3 (cell_turn k2 c1 (by omega)) (by omega)) (by omega)
  · exact cell_turn k4 (cell_turn k3 c2 (by omega)) (by omega)
  · exact cell_turn k4 c3 (by omega)
  · exact frozen_turn k4 f3 (by omega)
theorem made_row {E : TypeId} {w w' : World} {c : Nat} {f : Nat → UInt8} {v : Value} (ho : w'.ownsRow w.heap.size E 1 v (bys (mkRow c f)).length (bys (mkRow c f))) (hc : 0 < c) : ∃ g cc, v = .slice (some ⟨g, 0, none⟩) c cc ∧ w.heap.size ≤ g ∧ g < w'.heap.size ∧ OwnBytes E w' w.heap.size w'.heap.size (.slice (some ⟨g, 0, none⟩) c cc) (mkRow c f) := by
  have h : OwnBytes E w' w.heap.size w'.heap.size v (mkRow c f) := OwnBytes.of_made (by simpa using ho)
  obtain ⟨g, cc, rfl, h1, h2⟩ := row_own h hc
  exact ⟨g, cc, rfl, h1, h2, h⟩
theorem drew_turn (w : World) : TurnIn 0 0 w w.drew := ⟨rfl, rfl, rfl, Nat.le_refl _, fun _ _ _ => rfl⟩
theorem own_drew {E : TypeId} {w : World} {lo : Nat} {v : Value} {l : List UInt8} (h : OwnBytes E w lo w.heap.size v l) : OwnBytes E w.drew lo w.drew.heap.size v l := h.keep (drew_turn w) (by omega)
def RetReduce (E EE : TypeId) (w : World) (L : Mat) (n : Nat) (e : Ending) (w' : World) : Prop := ∃ (A : Option Addr) (a c : Nat) (vb : Value) (us : List Value), e = .returned (.tuple #[.agg #[.slice A a c], .agg #[vb], .int .i64 n]) ∧ OwnM E EE w' w.heap.size w'.heap.size vb L us ∧ TurnIn 0 0 w w'
end G294
namespace Go.Proofs.YtbfchebnooanjaaDoor
open Go.RowKit G294

set_option maxRecDepth 100000 in
set_option maxHeartbeats 4000000 in
theorem l2Reduce_own (n c d : Nat) (F B : Ents) (v u : Value) (w : World) (hs : SeenM w v (mkM n c F)) (hu : SeenM w u (mkM n d B)) (hn1 : 1 ≤ n) (hn : n ≤ 1000) (hc1 : 1 ≤ c) (hc : c ≤ 1000) (hd1 : 1 ≤ d) (hd : d ≤ 1000) :
    Calls Tryd.prog 69 #[.agg #[v], .agg #[u]] w (RetReduce 5 22 w (mkM n d (bst F B n c)) (est F n c).2) := by
  obtain ⟨A0, cp0, ev, _, _⟩ := hs.len
  obtain ⟨A1, cp1, eu, _, _⟩ := hu.len
  rw [mkM_length] at ev eu
  subst ev eu
  have h4 := four w (.slice A0 n cp0) (.slice A1 n cp1) (.slice none 0 0) (.slice none 0 0) 67
  have q0 := h4.1.1
  have q1 := h4.1.2.1
  have q2 := h4.1.2.2.1
  have q2f := h4.1.2.2.2.1
  have q3 := h4.1.2.2.2.2.1
  have q3f := h4.1.2.2.2.2.2
  have z4 := h4.2.1
  have k4 := h4.2.2
  clear h4
  have HS := Lib.hid (hs.touch k4)
  have HU := Lib.hid (hu.touch k4)
  have K4 := Lib.hid k4
  clear hs hu k4
  go_enter Tryd.func69, Tryd.ntmps69
  go_wp2_with fail
  generalize ((((w.alloc (.cells #[.slice A0 n cp0] 67)).alloc (.cells #[.slice A1 n cp1] 67)).alloc (.cells #[.slice none 0 0] 67)).alloc (.cells #[.slice none 0 0] 67)) = w4 at *
  refine (l2Own_own n c F _ w4 HS.out hn hc hc1).mono ?_
  rintro e w5 ⟨va, vs0, rfl, oA, k5⟩
  obtain ⟨g1, p1, rfl, ga1, ga2, ga3, ga4⟩ := oA.sliceF hn1
  have kk5 := turn_trans k5 (turn_alloc w5 (.cells #[.slice (some ⟨g1, 0, none⟩) n p1] 67)) (by omega)
  have q1' := cell_turn kk5 q1 (by omega)
  have HU5 := Lib.hid (HU.out.touch kk5)
  go_wp2_with fail
  refine (l2Own_own n d B _ _ HU5.out hn hd hd1).mono ?_
  rintro e w7 ⟨vb, us0, rfl, oB, k7⟩
  obtain ⟨g2, p2, rfl, gb1, gb2, gb3, gb4⟩ := oB.sliceF hn1
  have z5 : (w5.alloc (.cells #[.slice (some ⟨g1, 0, none⟩) n p1] 67)).heap.size = w5.heap.size + 1 := by simp
  have kk7 := turn_trans k7 (turn_alloc w7 (.cells #[.slice (some ⟨g2, 0, none⟩) n p2] 67)) (by omega)
  have b7 := cell_turn kk7 (new_cell w5 (.slice (some ⟨g1, 0, none⟩) n p1) 67) (by omega)
  have b8 := new_cell w7 (.slice (some ⟨g2, 0, none⟩) n p2) 67
  have kA := turn_trans (turn_alloc w5 (.cells #[.slice (some ⟨g1, 0, none⟩) n p1] 67)) kk7 (by omega)
  have k48 := turn_trans kk5 kk7 (by omega)
  have r2 := cell_turn k48 q2 (by omega)
  have r2f := frozen_turn k48 q2f (by omega)
  have r3 := cell_turn k48 q3 (by omega)
  have r3f := frozen_turn k48 q3f (by omega)
  have z8 : (w7.alloc (.cells #[.slice (some ⟨g2, 0, none⟩) n p2] 67)).heap.size = w7.heap.size + 1 := by simp
  have z75 : w5.heap.size + 1 ≤ w7.heap.size := by have := k7.size; rw [z5] at this; exact this
  rw [z5] at gb1
  have htw := Two.of (lo := w.heap.size + 4) (oA.keep kA (by omega)) (oB.keep (turn_alloc w7 (.cells #[.slice (some ⟨g2, 0, none⟩) n p2] 67)) (by omega)) (by rw [z5]; omega) (by omega) (by simp) (by simp) (by rw [z5]; have := k5.size; omega)
  have HTW := Lib.hid htw.1
  have HAP := Lib.hid htw.2
  have K8 := Lib.hid (turn_trans K4.out k48 (by omega))
  clear htw oA oB kk7 k7 k48 kk5 k5 kA q0 q1 q1' q2 q2f q3 q3f z5 HS HU HU5 K4
  go_wp2_with fail
  generalize (w7.alloc (.cells #[.slice (some ⟨g2, 0, none⟩) n p2] 67)) = w8 at *
  generalize w7.heap.size = B8 at *
  generalize w5.heap.size = B7 at *
  unfold maxLen at ga4 gb4
  have n17 : B7 ≠ g1 := by omega
  have n27 : B7 ≠ g2 := by omega
  have n18 : B8 ≠ g1 := by omega
  have n28 : B8 ≠ g2 := by omega
  have l7 : B7 < w8.heap.size := by omega
  have l8 : B8 < w8.heap.size := by omega
  have HB7 := Lib.hid b7
  have HB8 := Lib.hid b8
  clear b7 b8
  go_loopw [9, 10] (fun x y wr => ∃ (k t : Nat) (Fa : Ents) (vs us : List Value), k ≤ c ∧ t ≤ n ∧ x = .int .i64 t ∧ y = .int .i64 k ∧ Hid (est F n k = (Fa, t)) ∧ Hid (Two 5 22 wr (w.heap.size + 4) g1 g2 n p1 p2 (mkM n c Fa) (mkM n d (bst F B n k)) vs us) ∧ Hid (ApartL us) ∧ Hid (Off g1 g2 w8 wr)) (fun _ y _ => c - (intOf y).toNat)
  case atStart => exact ⟨0, 0, F, vs0, us0, Nat.zero_le _, Nat.zero_le _, rfl, rfl, rfl, HTW, HAP, Lib.hid (Off.refl _)⟩
  case round =>
    obtain ⟨k, t, Fa, vs, us, hk, ht, rfl, rfl, HE, HT, HA, HO⟩ := hrel
    have c7 := HO.out.cell HB7.out l7 n17 n27
    have c8 := HO.out.cell HB8.out l8 n18 n28
    obtain ⟨b0, cc0, hv0, l0, m0, m0', r0, y0, y0'⟩ := HT.out.rowF 0 (by omega) (by omega)
    have hszr := HO.out.size
    unfold maxLen at m0'
    clear y0 y0' hv0 HTW HAP
    by_cases hkc : k < c
    · have hki : (k : Int) < (c : Int) := by omega
      by_cases htn : t < n
      · have hti : (t : Int) < (n : Int) := by omega
        go_wp2_with fail
        go_loop [11] (fun x => ∃ q : Nat, t ≤ q ∧ q ≤ n ∧ x = .int .i64 q ∧ Hid (∀ i, t ≤ i → i < q → Fa i k = 0)) (fun x => n - (intOf x).toNat)
        case atStart => exact ⟨t, Nat.le_refl _, ht, rfl, fun i h1 h2 => by omega⟩
        case round =>
          obtain ⟨q, hq1, hq2, rfl, HQ⟩ := hrel
          by_cases hqn : q < n
          · have hqi : (q : Int) < (n : Int) := by omega
            obtain ⟨bp, cpp, hvp, lp, mp, mp', rp, op_, cp_⟩ := HT.out.rowF q hqn (by omega)
            have hx := cp_ k hkc
            unfold maxLen at mp'
            by_cases hz : Fa q k = 0
            · have hbz : (((Fa q k).toNat : Int) == 0) = true := by rw [hz]; rfl
              have HZ := Lib.hid hz
              clear cp_ op_ hvp hz
              go_wp2_with fail
              go_round
              case rel => exact ⟨q + 1, by omega, by omega, by go_num, fun i h1 h2 => if e : i = q then e ▸ HZ.out else HQ.out i h1 (by omega)⟩
              case measure => simp [intOf]; omega
            · have hbz : (((Fa q k).toNat : Int) == 0) = false := by
                rw [beq_eq_false_iff_ne]
                intro e
                exact hz (u8_ext (by have : (Fa q k).toNat = 0 := by omega
                                     rw [this]; rfl))
              have hqb : ((q : Int) == (n : Int)) = false := by simp; omega
              have HP := Lib.hid (piv_some hq1 hqn hz HQ.out)
              obtain ⟨dp, dpp, hup, ldp, mdp, mdp', rdp, odp, ydp⟩ := HT.out.flip.rowF q hqn (by omega)
              obtain ⟨bt, btc, hvt, lbt, mbt, mbt', rbt, obt, ybt⟩ := HT.out.rowF t htn (by omega)
              obtain ⟨dt, dtc, hut, ldt, mdt, mdt', rdt, odt, ydt⟩ := HT.out.flip.rowF t htn (by omega)
              have fzq := HT.out.frz q
              have hg1 : g1 < w8.heap.size := by omega
              have hg2 : g2 < w8.heap.size := by omega
              have HOP := Lib.hid op_
              have T1 := Lib.hid ((HT.out.put q (by simpa using hqn) obt (HT.out.r1 t _ hvt).2.1 (HT.out.r1 t _ hvt).2.2).keep (drew_turn _))
              have OP1 := Lib.hid (own_drew (HT.out.side q (.slice (some ⟨bt, 0, none⟩) c btc) op_ (HT.out.r1 q _ hvp).2.1))
              have OD1 := Lib.hid (own_drew (HT.out.side q (.slice (some ⟨bt, 0, none⟩) c btc) odp (HT.out.r2 q _ hup).2.1))
              have OT1 := Lib.hid (own_drew (HT.out.side q (.slice (some ⟨bt, 0, none⟩) c btc) odt (HT.out.r2 t _ hut).2.1))
              have NP := Lib.hid (HT.out.r1 q _ hvp).2
              have ND := Lib.hid (HT.out.r2 q _ hup).2
              have NT := Lib.hid (HT.out.r2 t _ hut).2
              have O1 := Lib.hid ((HO.out.set1 q (.slice (some ⟨bt, 0, none⟩) c btc)).turn (drew_turn _))
              have HUP := Lib.hid hup
              have HUT := Lib.hid hut
              have S1 : (wr.setCell ⟨g1, q, none⟩ (.slice (some ⟨bt, 0, none⟩) c btc)).drew.heap.size = wr.heap.size := by simp
              unfold maxLen at mdp' mbt' mdt'
              clear cp_ hz op_ obt odt odp ydp ybt ydt hvp hup hvt hut
              go_wp2_with fail
              go_region
              generalize (wr.setCell ⟨g1, q, none⟩ (.slice (some ⟨bt, 0, none⟩) c btc)).drew = W1 at *
              clear c7 c8 rp rdp rbt rdt r0 hx fzq
              have c8 := O1.out.cell HB8.out l8 n18 n28
              have rdp := T1.out.flip.at1 HUP.out
              have rdt := T1.out.flip.at1 HUT.out
              have fzq := T1.out.flip.frz q
              have T2 := Lib.hid (((T1.out.flip.put q (by simpa using hqn) OT1.out NT.out.2 NT.out.1).flip).keep (drew_turn _))
              have OP2 := Lib.hid (own_drew (T1.out.flip.side q (.slice (some ⟨dt, 0, none⟩) d dtc) OP1.out NP.out.2))
              have OD2 := Lib.hid (own_drew (T1.out.flip.side q (.slice (some ⟨dt, 0, none⟩) d dtc) OD1.out ND.out.2))
              have O2 := Lib.hid ((O1.out.set2 q (.slice (some ⟨dt, 0, none⟩) d dtc)).turn (drew_turn _))
              have S2 : (W1.setCell ⟨g2, q, none⟩ (.slice (some ⟨dt, 0, none⟩) d dtc)).drew.heap.size = wr.heap.size := by simp [S1]
              clear T1 OP1 OD1 OT1 O1
              go_wp2_with fail
              go_region
              generalize (W1.setCell ⟨g2, q, none⟩ (.slice (some ⟨dt, 0, none⟩) d dtc)).drew = W2 at *
              clear c8 rdp rdt fzq
              have hx := OP2.out.cellAt (k := k) (by simpa using hkc)
              rw [mkRow_getD _ _ _ hkc] at hx
              have c7 := O2.out.cell HB7.out l7 n17 n27
              obtain ⟨xt, hxt⟩ := T2.out.some1 htn
              have fzt := T2.out.frz t
              have hs2 := O2.out.size
              go_wp2_with fail
              refine (l1Inverse_any (Fa q k).toNat (UInt8.toNat_lt _) W2).mono ?_
              rintro e w' ⟨rfl, rfl⟩
              rw [← ginv_toNat]
              have HGI : Hid (ginv (Fa q k) = ginv (Fa q k)) := rfl
              obtain ⟨s, hss⟩ : ∃ s, s = ginv (Fa q k) := ⟨_, rfl⟩
              rw [← hss]
              have HSS := Lib.hid hss
              clear hss hx HGI
              go_wp2_with fail
              go_region_held3 (fun w' => w'.cell? ⟨B7, 0, none⟩ = some (.slice (some ⟨g1, 0, none⟩) n p1))
                (first | exact c7 | exact (cell_set_other _ _ _ _ (Ne.symm n17)).trans c7)
                ((go_at_call 91; refine (l1Scale_any s _ (mkRow c (Fa q)) W2.drew OP2.out.seen (by simp; omega)).mono ?_; rintro e w3 ⟨vS, rfl, hS, hB3⟩; rw [scaleL_mk] at hS; obtain ⟨gS, cS, rfl, s1, s2, oS⟩ := made_row hS (by omega); have k3 := TurnIn.of_below hB3; replace c7 := cell_turn k3 (show W2.drew.cell? _ = _ from c7) (show B7 < W2.heap.size by omega); replace hxt := cell_turn k3 (show W2.drew.cell? _ = _ from hxt) (show g1 < W2.heap.size by omega); replace fzt := frozen_turn k3 (show W2.drew.frozen? _ = _ from fzt) (show g1 < W2.heap.size by omega)))
              have T2k := (T2.out.keep (drew_turn _)).keep k3
              have T3 := Lib.hid (((T2.out.keep (drew_turn _)).new k3 oS s1 (by have := K8.out.size; show w.heap.size + 4 ≤ W2.heap.size; omega) t (by simpa using htn)).congr (swap_put n c t q s Fa) rfl)
              have OD3 := Lib.hid (T2k.side t (.slice (some ⟨gS, 0, none⟩) c cS) (((OD2.out.keep (drew_turn _) (by omega)).keep k3 (by omega)).wider (Nat.le_refl _) (by have := k3.size; exact this) (Nat.le_refl _)) ND.out.1)
              have O3 := Lib.hid (((O2.out.turn (drew_turn _)).turn k3).set1 t (.slice (some ⟨gS, 0, none⟩) c cS))
              have S3 : wr.heap.size ≤ (w3.setCell ⟨g1, t, none⟩ (.slice (some ⟨gS, 0, none⟩) c cS)).heap.size := by have := k3.size; simp; rw [← S2]; exact this
              clear hS hB3 s1 s2 oS k3 T2k c7 hxt fzt T2 OP2 OD2 O2
              generalize (w3.setCell ⟨g1, t, none⟩ (.slice (some ⟨gS, 0, none⟩) c cS)) = W3 at *
              have c8 := O3.out.cell HB8.out l8 n18 n28
              obtain ⟨xt, hxt⟩ := T3.out.flip.some1 htn
              have fzt := T3.out.flip.frz t
              have hs3 := O3.out.size
              go_wp2_with fail
              go_region_held3 (fun w' => w'.cell? ⟨B8, 0, none⟩ = some (.slice (some ⟨g2, 0, none⟩) n p2))
                (first | exact c8 | exact (cell_set_other _ _ _ _ (Ne.symm n28)).trans c8)
                ((go_at_call 91; refine (l1Scale_any s _ (mkRow d (bst F B n k q)) W3.drew OD3.out.seen (by simp; omega)).mono ?_; rintro e w4' ⟨vS', rfl, hS, hB3⟩; rw [scaleL_mk] at hS; obtain ⟨gD, cD, rfl, s1, s2, oS⟩ := made_row hS (by omega); have k3 := TurnIn.of_below hB3; replace c8 := cell_turn k3 (show W3.drew.cell? _ = _ from c8) (show B8 < W3.heap.size by omega); replace hxt := cell_turn k3 (show W3.drew.cell? _ = _ from hxt) (show g2 < W3.heap.size by omega); replace fzt := frozen_turn k3 (show W3.drew.frozen? _ = _ from fzt) (show g2 < W3.heap.size by omega)))
              have T4 := Lib.hid ((((T3.out.keep (drew_turn _)).flip.new k3 oS s1 (by have := K8.out.size; show w.heap.size + 4 ≤ W3.heap.size; omega) t (by simpa using htn)).congr (swap_put n d t q s (bst F B n k)) rfl).flip)
              have O4 := Lib.hid (((O3.out.turn (drew_turn _)).turn k3).set2 t (.slice (some ⟨gD, 0, none⟩) d cD))
              have A4 := Lib.hid (HA.out.move t q HUT.out (.slice (some ⟨gD, 0, none⟩) d cD) (HT.out.fresh (Nat.le_trans S3 s1)))
              clear hS hB3 s1 s2 oS k3 c8 hxt fzt T3 OD3 O3 S3 S2 S1
              generalize (w4'.setCell ⟨g2, t, none⟩ (.slice (some ⟨gD, 0, none⟩) d cD)) = W4 at *
              generalize (us.set q (.slice (some ⟨dt, 0, none⟩) d dtc)).set t (.slice (some ⟨gD, 0, none⟩) d cD) = us4 at *
              generalize (vs.set q (.slice (some ⟨bt, 0, none⟩) c btc)).set t (.slice (some ⟨gS, 0, none⟩) c cS) = vs4 at *
              have c7 := O4.out.cell HB7.out l7 n17 n27
              go_wp2_with fail
              go_loopw [111] (fun x wq => ∃ (i : Nat) (vs us : List Value), i ≤ n ∧ x = .int .i64 i ∧ Hid (Two 5 22 wq (w.heap.size + 4) g1 g2 n p1 p2 (mkM n c (ckF t i (fun i => swF t q Fa i k) (scF t s (swF t q Fa)))) (mkM n d (ckF t i (fun i => swF t q Fa i k) (scF t s (swF t q (bst F B n k))))) vs us) ∧ Hid (ApartL us) ∧ Hid (Off g1 g2 w8 wq)) (fun x _ => n - (intOf x).toNat)
              case atStart => exact ⟨0, vs4, us4, Nat.zero_le _, rfl, Lib.hid (T4.out.congr (ckF_zero _ _ _ _ _).symm (ckF_zero _ _ _ _ _).symm), A4, O4⟩
              case round =>
                obtain ⟨i, vs5, us5, hi, rfl, T5, A5, O5⟩ := hrel
                clear T4 A4 O4 c7
                by_cases hin : i < n
                · have hii : (i : Int) < (n : Int) := by omega
                  have c7 := O5.out.cell HB7.out l7 n17 n27
                  obtain ⟨bi, bic, hvi, lbi, mbi, mbi', ri, oi, ci⟩ := T5.out.rowF i hin (by omega)
                  have hx := ci k hkc
                  rw [ckF_k] at hx
                  have hs5 := O5.out.size
                  unfold maxLen at mbi'
                  by_cases hia : i = t
                  · have hne : ((i : Int) != (t : Int)) = false := by simp [hia]
                    have T6 := Lib.hid (T5.out.congr (ckF_stay t i _ _ n c (.inl hia)) (ckF_stay t i _ _ n d (.inl hia)))
                    clear hia ci oi hvi
                    go_wp2_with fail
                    go_roundw
                    case rel => exact ⟨i + 1, vs5, us5, by omega, by go_num, T6, A5, O5⟩
                    case measure => simp [intOf]; omega
                  · have hne : ((i : Int) != (t : Int)) = true := by simp; omega
                    have hX : scF t s (swF t q Fa) i k = swF t q Fa i k := by unfold scF; rw [if_neg hia]
                    rw [hX] at hx
                    obtain ⟨f, hf⟩ : ∃ f, f = swF t q Fa i k := ⟨_, rfl⟩
                    rw [← hf] at hx
                    by_cases hf0 : f = 0
                    · have hbf : ((f.toNat : Int) != 0) = false := by rw [hf0]; rfl
                      have T6 := Lib.hid (T5.out.congr (ckF_stay t i _ _ n c (.inr (hf.symm.trans hf0))) (ckF_stay t i _ _ n d (.inr (hf.symm.trans hf0))))
                      clear hia ci oi hvi hX hf hf0
                      go_wp2_with fail
                      go_roundw
                      case rel => exact ⟨i + 1, vs5, us5, by omega, by go_num, T6, A5, O5⟩
                      case measure => simp [intOf]; omega
                    · have hbf : ((f.toNat : Int) != 0) = true := by
                        rw [bne_iff_ne]
                        intro e
                        exact hf0 (u8_ext (by have : f.toNat = 0 := by omega
                                              rw [this]; rfl))
                      obtain ⟨bt', btc', hvt', lbt', mbt'', mbtm, rt, ot, yt⟩ := T5.out.rowF t htn (by omega)
                      have fzi := T5.out.frz i
                      have HIA := Lib.hid hia
                      have OI := Lib.hid oi
                      have OT := Lib.hid ot
                      have HF := Lib.hid hf
                      have hlo : w.heap.size + 4 ≤ w8.heap.size := by have := K8.out.size; omega
                      unfold maxLen at mbtm
                      clear ci oi ot yt hvi hvt' hX hf hf0 hia
                      go_wp2_with fail
                      have hS : (fun w' : World => w'.cell? ⟨B7, 0, none⟩ = some (.slice (some ⟨g1, 0, none⟩) n p1) ∧ w'.cell? ⟨g1, i, none⟩ = some (.slice (some ⟨bi, 0, none⟩) c bic) ∧ w'.cell? ⟨g1, t, none⟩ = some (.slice (some ⟨bt', 0, none⟩) c btc')) wr.drew := ⟨c7, ri, rt⟩
                      refine wp_region_tail (fun w' : World => w'.cell? ⟨B7, 0, none⟩ = some (.slice (some ⟨g1, 0, none⟩) n p1) ∧ w'.cell? ⟨g1, i, none⟩ = some (.slice (some ⟨bi, 0, none⟩) c bic) ∧ w'.cell? ⟨g1, t, none⟩ = some (.slice (some ⟨bt', 0, none⟩) c btc')) 17 (by kernel_rfl) ?_
                      refine wpAnyT_take (i := 0) (oi := _) (v := ?v0) rfl (by kernel_rfl) (by kernel_rfl) (by kernel_rfl) (by kernel_rfl) (fun _ _ _ h => h) (Or.inl ⟨by rfl, ?hy0⟩) hS ?rest0
                      case hy0 => (intro W hW; obtain ⟨e1, e2, e3⟩ := hW; go_simp; try with_reducible rfl)
                      simp only [Act.put, List.setIfInBounds_toArray, List.set_cons_zero, List.set_cons_succ]
                      refine wpAnyT_take (i := 1) (oi := _) (v := ?v1) rfl (by kernel_rfl) (by kernel_rfl) (by kernel_rfl) (by kernel_rfl) (fun _ _ _ h => h) (Or.inl ⟨by rfl, ?hy1⟩) hS ?rest1
                      case hy1 => (intro W hW; obtain ⟨e1, e2, e3⟩ := hW; go_simp; try with_reducible rfl)
                      simp only [Act.put, List.setIfInBounds_toArray, List.set_cons_zero, List.set_cons_succ]
                      refine wpAnyT_take (i := 2) (oi := _) (v := ?v2) rfl (by kernel_rfl) (by kernel_rfl) (by kernel_rfl) (by kernel_rfl) (fun _ _ _ h => h) (Or.inl ⟨by rfl, ?hy2⟩) hS ?rest2
                      case hy2 => (intro W hW; obtain ⟨e1, e2, e3⟩ := hW; go_simp; try with_reducible rfl)
                      simp only [Act.put, List.setIfInBounds_toArray, List.set_cons_zero, List.set_cons_succ]
                      refine wpAnyT_take (i := 3) (oi := _) (v := ?v3) rfl (by kernel_rfl) (by kernel_rfl) (by kernel_rfl) (by kernel_rfl) (fun _ _ _ h => h) (Or.inl ⟨by rfl, ?hy3⟩) hS ?rest3
                      case hy3 => (intro W hW; obtain ⟨e1, e2, e3⟩ := hW; go_simp; try with_reducible rfl)
                      simp only [Act.put, List.setIfInBounds_toArray, List.set_cons_zero, List.set_cons_succ]
                      refine wpAnyT_take (i := 4) (oi := _) (v := ?v4) rfl (by kernel_rfl) (by kernel_rfl) (by kernel_rfl) (by kernel_rfl) (fun _ _ _ h => h) (Or.inl ⟨by rfl, ?hy4⟩) hS ?rest4
                      case hy4 => (intro W hW; obtain ⟨e1, e2, e3⟩ := hW; go_simp; try with_reducible rfl)
                      simp only [Act.put, List.setIfInBounds_toArray, List.set_cons_zero, List.set_cons_succ]
                      refine wpAnyT_take (i := 5) (oi := _) (v := ?v5) rfl (by kernel_rfl) (by kernel_rfl) (by kernel_rfl) (by kernel_rfl) (fun _ _ _ h => h) (Or.inl ⟨by rfl, ?hy5⟩) hS ?rest5
                      case hy5 => (intro W hW; obtain ⟨e1, e2, e3⟩ := hW; go_simp; try with_reducible rfl)
                      simp only [Act.put, List.setIfInBounds_toArray, List.set_cons_zero, List.set_cons_succ]
                      refine wpAnyT_take (i := 6) (oi := _) (v := ?v6) rfl (by kernel_rfl) (by kernel_rfl) (by kernel_rfl) (by kernel_rfl) (fun _ _ _ h => h) (Or.inl ⟨by rfl, ?hy6⟩) hS ?rest6
                      case hy6 => (intro W hW; obtain ⟨e1, e2, e3⟩ := hW; go_simp; try with_reducible rfl)
                      simp only [Act.put, List.setIfInBounds_toArray, List.set_cons_zero, List.set_cons_succ]
                      refine wpAnyT_take (i := 7) (oi := _) (v := ?v7) rfl (by kernel_rfl) (by kernel_rfl) (by kernel_rfl) (by kernel_rfl) (fun _ _ _ h => h) (Or.inl ⟨by rfl, ?hy7⟩) hS ?rest7
                      case hy7 => (intro W hW; obtain ⟨e1, e2, e3⟩ := hW; go_simp; try with_reducible rfl)
                      simp only [Act.put, List.setIfInBounds_toArray, List.set_cons_zero, List.set_cons_succ]
                      refine wpAnyT_take (i := 8) (oi := _) (v := ?v8) rfl (by kernel_rfl) (by kernel_rfl) (by kernel_rfl) (by kernel_rfl) (fun _ _ _ h => h) (Or.inl ⟨by rfl, ?hy8⟩) hS ?rest8
                      case hy8 => (intro W hW; obtain ⟨e1, e2, e3⟩ := hW; go_simp; try with_reducible rfl)
                      simp only [Act.put, List.setIfInBounds_toArray, List.set_cons_zero, List.set_cons_succ]
                      refine wpAnyT_take (i := 9) (oi := _) (v := ?v9) rfl (by kernel_rfl) (by kernel_rfl) (by kernel_rfl) (by kernel_rfl) (fun _ _ _ h => h) (Or.inl ⟨by rfl, ?hy9⟩) hS ?rest9
                      case hy9 => (intro W hW; obtain ⟨e1, e2, e3⟩ := hW; go_simp; try with_reducible rfl)
                      simp only [Act.put, List.setIfInBounds_toArray, List.set_cons_zero, List.set_cons_succ]
                      refine wpAnyT_take (i := 10) (oi := _) (v := ?v10) rfl (by kernel_rfl) (by kernel_rfl) (by kernel_rfl) (by kernel_rfl) (fun _ _ _ h => h) (Or.inl ⟨by rfl, ?hy10⟩) hS ?rest10
                      case hy10 => (intro W hW; obtain ⟨e1, e2, e3⟩ := hW; go_simp; try with_reducible rfl)
                      simp only [Act.put, List.setIfInBounds_toArray, List.set_cons_zero, List.set_cons_succ]
                      refine wpAnyT_take (i := 11) (oi := _) (v := ?v11) rfl (by kernel_rfl) (by kernel_rfl) (by kernel_rfl) (by kernel_rfl) (fun _ _ _ h => h) (Or.inl ⟨by rfl, ?hy11⟩) hS ?rest11
                      case hy11 => (intro W hW; obtain ⟨e1, e2, e3⟩ := hW; go_simp; try with_reducible rfl)
                      simp only [Act.put, List.setIfInBounds_toArray, List.set_cons_zero, List.set_cons_succ]
                      refine wpAnyT_take (i := 12) (oi := _) (v := ?v12) rfl (by kernel_rfl) (by kernel_rfl) (by kernel_rfl) (by kernel_rfl) (fun _ _ _ h => h) (Or.inl ⟨by rfl, ?hy12⟩) hS ?rest12
                      case hy12 => (intro W hW; obtain ⟨e1, e2, e3⟩ := hW; go_simp; try with_reducible rfl)
                      simp only [Act.put, List.setIfInBounds_toArray, List.set_cons_zero, List.set_cons_succ]
                      refine wpAnyT_take (i := 13) (oi := _) (v := ?v13) rfl (by kernel_rfl) (by kernel_rfl) (by kernel_rfl) (by kernel_rfl) (fun _ _ _ h => h) (Or.inl ⟨by rfl, ?hy13⟩) hS ?rest13
                      case hy13 => (intro W hW; obtain ⟨e1, e2, e3⟩ := hW; go_simp; try with_reducible rfl)
                      simp only [Act.put, List.setIfInBounds_toArray, List.set_cons_zero, List.set_cons_succ]
                      refine wpAnyT_one (i := 14) (o := _) rfl (by kernel_rfl) (fun K hK => ?_)
                      go_simp
                      refine (l1Scale_any f _ _ wr.drew OT.out.seen (by simp; omega)).mono ?_
                      rintro e w6 ⟨vS, rfl, hSc, hB6⟩
                      rw [scaleL_mk] at hSc
                      obtain ⟨gS', cS', rfl, s1, s2, oS⟩ := made_row hSc (by omega)
                      have k6 : TurnIn 0 0 wr w6 := turn_trans (drew_turn wr) (TurnIn.of_below hB6) (by omega)
                      replace c7 := cell_turn k6 c7 (show B7 < wr.heap.size by omega)
                      replace rt := cell_turn k6 rt (show g1 < wr.heap.size by omega)
                      replace ri := cell_turn k6 ri (show g1 < wr.heap.size by omega)
                      replace fzi := frozen_turn k6 fzi (show g1 < wr.heap.size by omega)
                      have hs6 := k6.size
                      refine hK.out _ _ (fun _ => ⟨c7, ri, rt⟩) ?_
                      clear hK K hS
                      try simp only [Act.put, List.setIfInBounds_toArray, List.set_cons_zero, List.set_cons_succ]
                      refine wpAnyT_one (i := 15) (o := _) rfl (by kernel_rfl) (fun K hK => ?_)
                      go_simp
                      refine (l1Add_own _ _ _ _ w6 (OI.out.seen.touch k6) oS.seen (by simp) (by simp; omega)).mono ?_
                      rintro e w7 ⟨vA, rfl, oA, k7⟩
                      rw [addL_mk] at oA
                      obtain ⟨gA, cA, rfl, a1, a2⟩ := row_own oA (by omega)
                      replace c7 := cell_turn k7 c7 (show B7 < w6.heap.size by omega)
                      replace rt := cell_turn k7 rt (show g1 < w6.heap.size by omega)
                      replace ri := cell_turn k7 ri (show g1 < w6.heap.size by omega)
                      replace fzi := frozen_turn k7 fzi (show g1 < w6.heap.size by omega)
                      refine hK.out _ _ (fun _ => ⟨c7, ri, rt⟩) ?_
                      clear hK K
                      try simp only [Act.put, List.setIfInBounds_toArray, List.set_cons_zero, List.set_cons_succ]
                      refine wpAnyT_take (i := 16) (oi := _) (v := ?v16) rfl (by kernel_rfl) (by kernel_rfl) (by kernel_rfl) (by kernel_rfl) (fun _ _ _ h => h) (Or.inl ⟨by rfl, ?hy16⟩) ⟨c7, ri, rt⟩ ?rest16
                      case hy16 => (intro W hW; obtain ⟨e1, e2, e3⟩ := hW; go_simp; try with_reducible rfl)
                      simp only [Act.put, List.setIfInBounds_toArray, List.set_cons_zero, List.set_cons_succ]
                      refine wpAnyT_one (i := 17) (o := _) rfl (by kernel_rfl) (fun K hK => ?_)
                      go_simp
                      refine hK.out _ _ (fun h => absurd rfl h) ?_
                      clear hK K
                      try simp only [Act.put, List.setIfInBounds_toArray, List.set_cons_zero, List.set_cons_succ]
                      refine wpAnyT_done (by kernel_rfl) ?_ _
                      have T6 := Lib.hid (((T5.out.keep k6).new k7 oA a1 (by omega) i (by simpa using hin)).congr (ckF_put' t i _ _ n c f HF.out HIA.out) rfl)
                      have O6 := Lib.hid (((O5.out.turn k6).turn k7).set1 i (.slice (some ⟨gA, 0, none⟩) c cA))
                      clear hSc hB6 s1 s2 oS k6 hs6 oA k7 a1 a2 c7 rt ri fzi OI OT T5 O5
                      generalize (w7.setCell ⟨g1, i, none⟩ (.slice (some ⟨gA, 0, none⟩) c cA)) = W6 at *
                      generalize vs5.set i (.slice (some ⟨gA, 0, none⟩) c cA) = vs6 at *
                      have c8 := O6.out.cell HB8.out l8 n18 n28
                      obtain ⟨di, dic, hui, ldi, mdi, mdim, rdi, odi, ydi⟩ := T6.out.flip.rowF i hin (by omega)
                      obtain ⟨dt', dtc', hut', ldt', mdt'', mdtm, rdt', odt', ydt'⟩ := T6.out.flip.rowF t htn (by omega)
                      have fzd := T6.out.flip.frz i
                      have OI2 := Lib.hid odi
                      have OT2 := Lib.hid odt'
                      have hs6' := O6.out.size
                      unfold maxLen at mdim mdtm
                      clear odi ydi odt' ydt' hui hut'
                      go_wp2_with fail
                      have hS : (fun w' : World => w'.cell? ⟨B8, 0, none⟩ = some (.slice (some ⟨g2, 0, none⟩) n p2) ∧ w'.cell? ⟨g2, i, none⟩ = some (.slice (some ⟨di, 0, none⟩) d dic) ∧ w'.cell? ⟨g2, t, none⟩ = some (.slice (some ⟨dt', 0, none⟩) d dtc')) W6.drew := ⟨c8, rdi, rdt'⟩
                      refine wp_region_tail (fun w' : World => w'.cell? ⟨B8, 0, none⟩ = some (.slice (some ⟨g2, 0, none⟩) n p2) ∧ w'.cell? ⟨g2, i, none⟩ = some (.slice (some ⟨di, 0, none⟩) d dic) ∧ w'.cell? ⟨g2, t, none⟩ = some (.slice (some ⟨dt', 0, none⟩) d dtc')) 17 (by kernel_rfl) ?_
                      refine wpAnyT_take (i := 0) (oi := _) (v := ?vb0) rfl (by kernel_rfl) (by kernel_rfl) (by kernel_rfl) (by kernel_rfl) (fun _ _ _ h => h) (Or.inl ⟨by rfl, ?hyb0⟩) hS ?restb0
                      case hyb0 => (intro W hW; obtain ⟨e1, e2, e3⟩ := hW; go_simp; try with_reducible rfl)
                      simp only [Act.put, List.setIfInBounds_toArray, List.set_cons_zero, List.set_cons_succ]
                      refine wpAnyT_take (i := 1) (oi := _) (v := ?vb1) rfl (by kernel_rfl) (by kernel_rfl) (by kernel_rfl) (by kernel_rfl) (fun _ _ _ h => h) (Or.inl ⟨by rfl, ?hyb1⟩) hS ?restb1
                      case hyb1 => (intro W hW; obtain ⟨e1, e2, e3⟩ := hW; go_simp; try with_reducible rfl)
                      simp only [Act.put, List.setIfInBounds_toArray, List.set_cons_zero, List.set_cons_succ]
                      refine wpAnyT_take (i := 2) (oi := _) (v := ?vb2) rfl (by kernel_rfl) (by kernel_rfl) (by kernel_rfl) (by kernel_rfl) (fun _ _ _ h => h) (Or.inl ⟨by rfl, ?hyb2⟩) hS ?restb2
                      case hyb2 => (intro W hW; obtain ⟨e1, e2, e3⟩ := hW; go_simp; try with_reducible rfl)
                      simp only [Act.put, List.setIfInBounds_toArray, List.set_cons_zero, List.set_cons_succ]
                      refine wpAnyT_take (i := 3) (oi := _) (v := ?vb3) rfl (by kernel_rfl) (by kernel_rfl) (by kernel_rfl) (by kernel_rfl) (fun _ _ _ h => h) (Or.inl ⟨by rfl, ?hyb3⟩) hS ?restb3
                      case hyb3 => (intro W hW; obtain ⟨e1, e2, e3⟩ := hW; go_simp; try with_reducible rfl)
                      simp only [Act.put, List.setIfInBounds_toArray, List.set_cons_zero, List.set_cons_succ]
                      refine wpAnyT_take (i := 4) (oi := _) (v := ?vb4) rfl (by kernel_rfl) (by kernel_rfl) (by kernel_rfl) (by kernel_rfl) (fun _ _ _ h => h) (Or.inl ⟨by rfl, ?hyb4⟩) hS ?restb4
                      case hyb4 => (intro W hW; obtain ⟨e1, e2, e3⟩ := hW; go_simp; try with_reducible rfl)
                      simp only [Act.put, List.setIfInBounds_toArray, List.set_cons_zero, List.set_cons_succ]
                      refine wpAnyT_take (i := 5) (oi := _) (v := ?vb5) rfl (by kernel_rfl) (by kernel_rfl) (by kernel_rfl) (by kernel_rfl) (fun _ _ _ h => h) (Or.inl ⟨by rfl, ?hyb5⟩) hS ?restb5
                      case hyb5 => (intro W hW; obtain ⟨e1, e2, e3⟩ := hW; go_simp; try with_reducible rfl)
                      simp only [Act.put, List.setIfInBounds_toArray, List.set_cons_zero, List.set_cons_succ]
                      refine wpAnyT_take (i := 6) (oi := _) (v := ?vb6) rfl (by kernel_rfl) (by kernel_rfl) (by kernel_rfl) (by kernel_rfl) (fun _ _ _ h => h) (Or.inl ⟨by rfl, ?hyb6⟩) hS ?restb6
                      case hyb6 => (intro W hW; obtain ⟨e1, e2, e3⟩ := hW; go_simp; try with_reducible rfl)
                      simp only [Act.put, List.setIfInBounds_toArray, List.set_cons_zero, List.set_cons_succ]
                      refine wpAnyT_take (i := 7) (oi := _) (v := ?vb7) rfl (by kernel_rfl) (by kernel_rfl) (by kernel_rfl) (by kernel_rfl) (fun _ _ _ h => h) (Or.inl ⟨by rfl, ?hyb7⟩) hS ?restb7
                      case hyb7 => (intro W hW; obtain ⟨e1, e2, e3⟩ := hW; go_simp; try with_reducible rfl)
                      simp only [Act.put, List.setIfInBounds_toArray, List.set_cons_zero, List.set_cons_succ]
                      refine wpAnyT_take (i := 8) (oi := _) (v := ?vb8) rfl (by kernel_rfl) (by kernel_rfl) (by kernel_rfl) (by kernel_rfl) (fun _ _ _ h => h) (Or.inl ⟨by rfl, ?hyb8⟩) hS ?restb8
                      case hyb8 => (intro W hW; obtain ⟨e1, e2, e3⟩ := hW; go_simp; try with_reducible rfl)
                      simp only [Act.put, List.setIfInBounds_toArray, List.set_cons_zero, List.set_cons_succ]
                      refine wpAnyT_take (i := 9) (oi := _) (v := ?vb9) rfl (by kernel_rfl) (by kernel_rfl) (by kernel_rfl) (by kernel_rfl) (fun _ _ _ h => h) (Or.inl ⟨by rfl, ?hyb9⟩) hS ?restb9
                      case hyb9 => (intro W hW; obtain ⟨e1, e2, e3⟩ := hW; go_simp; try with_reducible rfl)
                      simp only [Act.put, List.setIfInBounds_toArray, List.set_cons_zero, List.set_cons_succ]
                      refine wpAnyT_take (i := 10) (oi := _) (v := ?vb10) rfl (by kernel_rfl) (by kernel_rfl) (by kernel_rfl) (by kernel_rfl) (fun _ _ _ h => h) (Or.inl ⟨by rfl, ?hyb10⟩) hS ?restb10
                      case hyb10 => (intro W hW; obtain ⟨e1, e2, e3⟩ := hW; go_simp; try with_reducible rfl)
                      simp only [Act.put, List.setIfInBounds_toArray, List.set_cons_zero, List.set_cons_succ]
                      refine wpAnyT_take (i := 11) (oi := _) (v := ?vb11) rfl (by kernel_rfl) (by kernel_rfl) (by kernel_rfl) (by kernel_rfl) (fun _ _ _ h => h) (Or.inl ⟨by rfl, ?hyb11⟩) hS ?restb11
                      case hyb11 => (intro W hW; obtain ⟨e1, e2, e3⟩ := hW; go_simp; try with_reducible rfl)
                      simp only [Act.put, List.setIfInBounds_toArray, List.set_cons_zero, List.set_cons_succ]
                      refine wpAnyT_take (i := 12) (oi := _) (v := ?vb12) rfl (by kernel_rfl) (by kernel_rfl) (by kernel_rfl) (by kernel_rfl) (fun _ _ _ h => h) (Or.inl ⟨by rfl, ?hyb12⟩) hS ?restb12
                      case hyb12 => (intro W hW; obtain ⟨e1, e2, e3⟩ := hW; go_simp; try with_reducible rfl)
                      simp only [Act.put, List.setIfInBounds_toArray, List.set_cons_zero, List.set_cons_succ]
                      refine wpAnyT_take (i := 13) (oi := _) (v := ?vb13) rfl (by kernel_rfl) (by kernel_rfl) (by kernel_rfl) (by kernel_rfl) (fun _ _ _ h => h) (Or.inl ⟨by rfl, ?hyb13⟩) hS ?restb13
                      case hyb13 => (intro W hW; obtain ⟨e1, e2, e3⟩ := hW; go_simp; try with_reducible rfl)
                      simp only [Act.put, List.setIfInBounds_toArray, List.set_cons_zero, List.set_cons_succ]
                      refine wpAnyT_one (i := 14) (o := _) rfl (by kernel_rfl) (fun K hK => ?_)
                      go_simp
                      refine (l1Scale_any f _ _ W6.drew OT2.out.seen (by simp; omega)).mono ?_
                      rintro e w6 ⟨vS, rfl, hSc, hB6⟩
                      rw [scaleL_mk] at hSc
                      obtain ⟨gS', cS', rfl, s1, s2, oS⟩ := made_row hSc (by omega)
                      have k6 : TurnIn 0 0 W6 w6 := turn_trans (drew_turn W6) (TurnIn.of_below hB6) (by omega)
                      replace c8 := cell_turn k6 c8 (show B8 < W6.heap.size by omega)
                      replace rdt' := cell_turn k6 rdt' (show g2 < W6.heap.size by omega)
                      replace rdi := cell_turn k6 rdi (show g2 < W6.heap.size by omega)
                      replace fzd := frozen_turn k6 fzd (show g2 < W6.heap.size by omega)
                      have hs6 := k6.size
                      refine hK.out _ _ (fun _ => ⟨c8, rdi, rdt'⟩) ?_
                      clear hK K hS
                      try simp only [Act.put, List.setIfInBounds_toArray, List.set_cons_zero, List.set_cons_succ]
                      refine wpAnyT_one (i := 15) (o := _) rfl (by kernel_rfl) (fun K hK => ?_)
                      go_simp
                      refine (l1Add_own _ _ _ _ w6 (OI2.out.seen.touch k6) oS.seen (by simp) (by simp; omega)).mono ?_
                      rintro e w7 ⟨vA, rfl, oA, k7⟩
                      rw [addL_mk] at oA
                      obtain ⟨gA, cA, rfl, a1, a2⟩ := row_own oA (by omega)
                      replace c8 := cell_turn k7 c8 (show B8 < w6.heap.size by omega)
                      replace rdt' := cell_turn k7 rdt' (show g2 < w6.heap.size by omega)
                      replace rdi := cell_turn k7 rdi (show g2 < w6.heap.size by omega)
                      replace fzd := frozen_turn k7 fzd (show g2 < w6.heap.size by omega)
                      refine hK.out _ _ (fun _ => ⟨c8, rdi, rdt'⟩) ?_
                      clear hK K
                      try simp only [Act.put, List.setIfInBounds_toArray, List.set_cons_zero, List.set_cons_succ]
                      refine wpAnyT_take (i := 16) (oi := _) (v := ?vb16) rfl (by kernel_rfl) (by kernel_rfl) (by kernel_rfl) (by kernel_rfl) (fun _ _ _ h => h) (Or.inl ⟨by rfl, ?hyb16⟩) ⟨c8, rdi, rdt'⟩ ?restb16
                      case hyb16 => (intro W hW; obtain ⟨e1, e2, e3⟩ := hW; go_simp; try with_reducible rfl)
                      simp only [Act.put, List.setIfInBounds_toArray, List.set_cons_zero, List.set_cons_succ]
                      refine wpAnyT_one (i := 17) (o := _) rfl (by kernel_rfl) (fun K hK => ?_)
                      go_simp
                      refine hK.out _ _ (fun h => absurd rfl h) ?_
                      clear hK K
                      try simp only [Act.put, List.setIfInBounds_toArray, List.set_cons_zero, List.set_cons_succ]
                      refine wpAnyT_done (by kernel_rfl) ?_ _
                      have T7 := Lib.hid ((((T6.out.flip.keep k6).new k7 oA a1 (by omega) i (by simpa using hin)).congr (ckF_put' t i _ _ n d f HF.out HIA.out) rfl).flip)
                      have O7 := Lib.hid (((O6.out.turn k6).turn k7).set2 i (.slice (some ⟨gA, 0, none⟩) d cA))
                      have A7 := Lib.hid (A5.out.set i (.slice (some ⟨gA, 0, none⟩) d cA) (T6.out.fresh (Nat.le_trans k6.size a1)))
                      clear hSc hB6 s1 s2 oS k6 oA k7 a1 a2 c8 rdt' rdi fzd OI2 OT2 T6 O6
                      go_wp2_with fail
                      go_roundw
                      case rel => exact ⟨i + 1, _, _, by omega, by go_num, T7, A7, O7⟩
                      case measure => simp [intOf]; omega
                · obtain rfl : i = n := by omega
                  have hii : ¬ (i : Int) < (i : Int) := by omega
                  have HE2 : Hid (est F i (k + 1) = (opF (G294.opAt Fa t k q) Fa, t + 1)) := by
                    show est F i (k + 1) = _
                    rw [est_some (p := q) (by rw [HE.out]; exact HP.out), HE.out]
                  have HBS : Hid (bst F B i (k + 1) = opF (G294.opAt Fa t k q) (bst F B i k)) := by
                    show bst F B i (k + 1) = _
                    rw [bst_some (p := q) (by rw [HE.out]; exact HP.out), HE.out]
                  have T6 := Lib.hid (T5.out.congr (A' := mkM i c (opF (G294.opAt Fa t k q) Fa)) (B' := mkM i d (bst F B i (k + 1))) (by rw [ckF_all, HSS.out]; rfl) (by rw [ckF_all, HBS.out, HSS.out]; rfl))
                  go_wp2_with fail
                  go_roundw
                  case rel => exact ⟨k + 1, t + 1, _, vs5, us5, by omega, by omega, by go_num, by go_num, HE2, T6, A5, O5⟩
                  case measure => simp [intOf]; omega
          · obtain rfl : q = n := by omega
            have hqi : ¬ (q : Int) < (q : Int) := by omega
            have hqb : ((q : Int) == (q : Int)) = true := by simp
            have HP := Lib.hid (piv_none (fun i h1 h2 => HQ.out i h1 h2))
            go_wp2_with fail
            go_roundw
            case rel => exact ⟨k + 1, t, Fa, vs, us, by omega, by omega, by first | rfl | go_num, by go_num, by show est F q (k + 1) = _; rw [est_none (by rw [HE.out]; exact HP.out), HE.out], by show Two _ _ _ _ _ _ _ _ _ _ _ _ _; rw [bst_none (by rw [HE.out]; exact HP.out)]; exact HT.out, HA, HO⟩
            case measure => simp [intOf]; omega
      · obtain rfl : t = n := by omega
        have hti : ¬ (t : Int) < (t : Int) := by omega
        have hful : (est F t k).2 = t := by rw [HE.out]
        have EB : bst F B t c = bst F B t k := by have := bst_full (B := B) hful (c - k); rwa [show k + (c - k) = c by omega] at this
        have EA : (est F t c).2 = t := by have := est_full hful (c - k); rw [show k + (c - k) = c by omega] at this; rw [this]; exact hful
        have e2 := HO.out.cell r2 (by omega) (by omega) (by omega)
        have e2f := HO.out.frozen r2f (by omega) (by omega) (by omega)
        have e3 := HO.out.cell r3 (by omega) (by omega) (by omega)
        have e3f := HO.out.frozen r3f (by omega) (by omega) (by omega)
        have HFIN : Hid (OwnM 5 22 wr (w.heap.size + 4) wr.heap.size (.slice (some ⟨g2, 0, none⟩) t p2) (mkM t d (bst F B t c)) us) := by
          show OwnM _ _ _ _ _ _ _ _
          rw [EB]
          exact HT.out.own2 HA.out (by simp)
        have hbl : Below w.heap.size w wr := HO.out.below K8.out.to_below (by omega) (by omega) (by omega)
        have x2 : ((wr.setCell ⟨w.heap.size + 2, 0, none⟩ (.slice (some ⟨g1, 0, none⟩) t p1)).setCell ⟨w.heap.size + 3, 0, none⟩ (.slice (some ⟨g2, 0, none⟩) t p2)).cell? ⟨w.heap.size + 2, 0, none⟩ = some (.slice (some ⟨g1, 0, none⟩) t p1) := (cell_set_other _ _ _ _ (by omega)).trans (World.cell?_setCell_same _ _ _ e2)
        have x3 : ((wr.setCell ⟨w.heap.size + 2, 0, none⟩ (.slice (some ⟨g1, 0, none⟩) t p1)).setCell ⟨w.heap.size + 3, 0, none⟩ (.slice (some ⟨g2, 0, none⟩) t p2)).cell? ⟨w.heap.size + 3, 0, none⟩ = some (.slice (some ⟨g2, 0, none⟩) t p2) := World.cell?_setCell_same _ _ _ ((cell_set_other _ _ _ _ (by omega)).trans e3)
        have e3' : (wr.setCell ⟨w.heap.size + 2, 0, none⟩ (.slice (some ⟨g1, 0, none⟩) t p1)).cell? ⟨w.heap.size + 3, 0, none⟩ = some (.slice none 0 0) := (cell_set_other _ _ _ _ (by omega)).trans e3
        have e3f' : (wr.setCell ⟨w.heap.size + 2, 0, none⟩ (.slice (some ⟨g1, 0, none⟩) t p1)).frozen? ⟨w.heap.size + 3, 0, none⟩ = false := (frozen_set_other _ _ _ _ (by omega)).trans e3f
        have HFI2 := Lib.hid ((((HFIN.out.keep (turn_setCell wr (w.heap.size + 2) 0 (.slice (some ⟨g1, 0, none⟩) t p1)) (by omega)).keep (turn_setCell _ (w.heap.size + 3) 0 (.slice (some ⟨g2, 0, none⟩) t p2)) (by omega)).keep (drew_turn _) (by omega)).wider (lo' := w.heap.size) (by omega) (by simp) (Nat.le_refl _))
        have HTI := Lib.hid (TurnIn.of_below (((hbl.setCell (p := ⟨w.heap.size + 2, 0, none⟩) (Nat.le_add_right _ 2) (.slice (some ⟨g1, 0, none⟩) t p1)).setCell (p := ⟨w.heap.size + 3, 0, none⟩) (Nat.le_add_right _ 3) (.slice (some ⟨g2, 0, none⟩) t p2)).drew))
        clear hbl HFIN
        go_wp2_with fail
        go_region
        go_wp2_with fail
        refine bodyPost_ret (v := .tuple #[.agg #[.slice (some ⟨g1, 0, none⟩) t p1], .agg #[.slice (some ⟨g2, 0, none⟩) t p2], .int .i64 t]) (by simp [results, Tryd.results69, go_sem, x2, x3]) rfl ?_
        exact ⟨_, _, _, _, us, by rw [EA], HFI2.out, HTI.out⟩
    · obtain rfl : k = c := by omega
      have hki : ¬ (k : Int) < (k : Int) := by omega
      have EB : bst F B n k = bst F B n k := rfl
      have EA : (est F n k).2 = t := by rw [HE.out]
      have e2 := HO.out.cell r2 (by omega) (by omega) (by omega)
      have e2f := HO.out.frozen r2f (by omega) (by omega) (by omega)
      have e3 := HO.out.cell r3 (by omega) (by omega) (by omega)
      have e3f := HO.out.frozen r3f (by omega) (by omega) (by omega)
      have HFIN : Hid (OwnM 5 22 wr (w.heap.size + 4) wr.heap.size (.slice (some ⟨g2, 0, none⟩) n p2) (mkM n d (bst F B n k)) us) := by
        show OwnM _ _ _ _ _ _ _ _
        rw [EB]
        exact HT.out.own2 HA.out (by simp)
      have hbl : Below w.heap.size w wr := HO.out.below K8.out.to_below (by omega) (by omega) (by omega)
      have x2 : ((wr.setCell ⟨w.heap.size + 2, 0, none⟩ (.slice (some ⟨g1, 0, none⟩) n p1)).setCell ⟨w.heap.size + 3, 0, none⟩ (.slice (some ⟨g2, 0, none⟩) n p2)).cell? ⟨w.heap.size + 2, 0, none⟩ = some (.slice (some ⟨g1, 0, none⟩) n p1) := (cell_set_other _ _ _ _ (by omega)).trans (World.cell?_setCell_same _ _ _ e2)
      have x3 : ((wr.setCell ⟨w.heap.size + 2, 0, none⟩ (.slice (some ⟨g1, 0, none⟩) n p1)).setCell ⟨w.heap.size + 3, 0, none⟩ (.slice (some ⟨g2, 0, none⟩) n p2)).cell? ⟨w.heap.size + 3, 0, none⟩ = some (.slice (some ⟨g2, 0, none⟩) n p2) := World.cell?_setCell_same _ _ _ ((cell_set_other _ _ _ _ (by omega)).trans e3)
      have e3' : (wr.setCell ⟨w.heap.size + 2, 0, none⟩ (.slice (some ⟨g1, 0, none⟩) n p1)).cell? ⟨w.heap.size + 3, 0, none⟩ = some (.slice none 0 0) := (cell_set_other _ _ _ _ (by omega)).trans e3
      have e3f' : (wr.setCell ⟨w.heap.size + 2, 0, none⟩ (.slice (some ⟨g1, 0, none⟩) n p1)).frozen? ⟨w.heap.size + 3, 0, none⟩ = false := (frozen_set_other _ _ _ _ (by omega)).trans e3f
      have HFI2 := Lib.hid ((((HFIN.out.keep (turn_setCell wr (w.heap.size + 2) 0 (.slice (some ⟨g1, 0, none⟩) n p1)) (by omega)).keep (turn_setCell _ (w.heap.size + 3) 0 (.slice (some ⟨g2, 0, none⟩) n p2)) (by omega)).keep (drew_turn _) (by omega)).wider (lo' := w.heap.size) (by omega) (by simp) (Nat.le_refl _))
      have HTI := Lib.hid (TurnIn.of_below (((hbl.setCell (p := ⟨w.heap.size + 2, 0, none⟩) (Nat.le_add_right _ 2) (.slice (some ⟨g1, 0, none⟩) n p1)).setCell (p := ⟨w.heap.size + 3, 0, none⟩) (Nat.le_add_right _ 3) (.slice (some ⟨g2, 0, none⟩) n p2)).drew))
      clear hbl HFIN
      go_wp2_with fail
      go_region
      go_wp2_with fail
      refine bodyPost_ret (v := .tuple #[.agg #[.slice (some ⟨g1, 0, none⟩) n p1], .agg #[.slice (some ⟨g2, 0, none⟩) n p2], .int .i64 t]) (by simp [results, Tryd.results69, go_sem, x2, x3]) rfl ?_
      exact ⟨_, _, _, _, us, by rw [EA], HFI2.out, HTI.out⟩
end Go.Proofs.YtbfchebnooanjaaDoor
