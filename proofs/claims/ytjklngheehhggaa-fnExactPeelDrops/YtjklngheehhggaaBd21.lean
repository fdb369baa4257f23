/- Joined texts: PelI. -/
import Derived.Test.YtjklngheehhggaaBd20
set_option linter.unusedSimpArgs false
set_option linter.unusedVariables false
/- Chapter 9: PeelDrops: the program's. -/
namespace G294
open Go Go.RowKit
/-- the next state in its own box, all of it younger than the first box -/
def Has7 (E E2 : TypeId) (B6 B7 lo0 : Nat) (r : Pee) (W : World) : Prop :=
  ∃ x y lo hi, BoxT B7 x y (.int .i64 r.2.2) W ∧ lo0 ≤ lo ∧ B6 < lo ∧ (B7 < lo ∨ hi ≤ B7) ∧ lo0 ≤ B7 ∧ B6 < B7 ∧ hi ≤ W.heap.size ∧ OwnP E E2 W lo hi x y r
theorem has7_new {E E2 T : TypeId} {B6 lo0 : Nat} {r : Pee} {W X : World} {x y : Value} (hl : lo0 ≤ W.heap.size) (hB : B6 < W.heap.size) (k : TurnIn 0 0 W X) (o : OwnP E E2 X W.heap.size X.heap.size x y r) : Has7 E E2 B6 X.heap.size lo0 r (X.alloc (.cells #[x, y, .int .i64 r.2.2] T)) := by
  have ks := k.size
  have a := alloc_lt X (.cells #[x, y, .int .i64 r.2.2] T)
  exact ⟨x, y, W.heap.size, X.heap.size, boxT_new _ _ _ _ _, hl, hB, .inr (Nat.le_refl _), by omega, by omega, by omega, o.keep (turn_alloc _ _) (by omega)⟩
theorem HasP.keep {E E2 : TypeId} {B lo : Nat} {p : Pee} {W W' : World} (h : HasP E E2 B lo p W) (t : TurnIn 0 0 W W') : HasP E E2 B lo p W' := by
  obtain ⟨x, y, l1, h1, l2, h2, hb, g1, g2, d, d1, d2, o1, o2⟩ := h
  exact ⟨x, y, l1, h1, l2, h2, hb.keep t (by omega), g1, g2, d, d1, d2, o1.keep t (by omega), o2.keep t (by omega)⟩
/-- the next state into the first box, a new box behind it, a call, its answer into the new box -/
theorem has_turn {E E2 T : TypeId} {B6 B7 lo0 : Nat} {p q r : Pee} {W X : World} {x y u v : Value} (h : HasP E E2 B6 lo0 p W) (hx : BoxT B7 x y (.int .i64 q.2.2) W) (hlo : ∃ lo hi, lo0 ≤ lo ∧ B6 < lo ∧ hi ≤ W.heap.size ∧ OwnP E E2 W lo hi x y q)
    (hl : lo0 ≤ W.heap.size) (k : TurnIn 0 0 ((((W.setCell ⟨B6, 0, none⟩ x).setCell ⟨B6, 1, none⟩ y).setCell ⟨B6, 2, none⟩ (.int .i64 q.2.2)).alloc (.cells #[x, y, .int .i64 q.2.2] T)) X)
    (o : OwnP E E2 X ((((W.setCell ⟨B6, 0, none⟩ x).setCell ⟨B6, 1, none⟩ y).setCell ⟨B6, 2, none⟩ (.int .i64 q.2.2)).alloc (.cells #[x, y, .int .i64 q.2.2] T)).heap.size X.heap.size u v r) :
    HasP E E2 B6 lo0 q (((X.setCell ⟨W.heap.size, 0, none⟩ u).setCell ⟨W.heap.size, 1, none⟩ v).setCell ⟨W.heap.size, 2, none⟩ (.int .i64 r.2.2)) ∧ Has7 E E2 B6 W.heap.size lo0 r (((X.setCell ⟨W.heap.size, 0, none⟩ u).setCell ⟨W.heap.size, 1, none⟩ v).setCell ⟨W.heap.size, 2, none⟩ (.int .i64 r.2.2)) := by
  obtain ⟨x0, y0, _, _, _, _, hb, _⟩ := h
  have hlt := hb.lt
  obtain ⟨lo, hi, e1, e2, e3, ⟨l1, h1, l2, h2, g1, g2, g3, g4, d, o1, o2⟩⟩ := hlo
  have k1 := turn_set3 W B6 x y (.int .i64 q.2.2)
  have z1 : (((W.setCell ⟨B6, 0, none⟩ x).setCell ⟨B6, 1, none⟩ y).setCell ⟨B6, 2, none⟩ (.int .i64 q.2.2)).heap.size = W.heap.size := by simp
  have k2 := turn_alloc (((W.setCell ⟨B6, 0, none⟩ x).setCell ⟨B6, 1, none⟩ y).setCell ⟨B6, 2, none⟩ (.int .i64 q.2.2)) (.cells #[x, y, .int .i64 q.2.2] T)
  have z2 := World.size_alloc (((W.setCell ⟨B6, 0, none⟩ x).setCell ⟨B6, 1, none⟩ y).setCell ⟨B6, 2, none⟩ (.int .i64 q.2.2)) (.cells #[x, y, .int .i64 q.2.2] T)
  have bn := boxT_new (((W.setCell ⟨B6, 0, none⟩ x).setCell ⟨B6, 1, none⟩ y).setCell ⟨B6, 2, none⟩ (.int .i64 q.2.2)) x y (.int .i64 q.2.2) T
  rw [z1] at bn
  have kS := turn_set3 X W.heap.size u v (.int .i64 r.2.2)
  have ks := k.size
  have sS := kS.size
  constructor
  · exact ⟨x, y, l1, h1, l2, h2, (((hb.set x y (.int .i64 q.2.2)).keep k2 (by omega)).keep k (by omega)).keep kS (by omega), by omega, by omega, d, .inl (by omega), .inl (by omega), (((o1.keep k1 (by omega)).keep k2 (by omega)).keep k (by omega)).keep kS (by omega), (((o2.keep k1 (by omega)).keep k2 (by omega)).keep k (by omega)).keep kS (by omega)⟩
  · exact ⟨u, v, _, X.heap.size, (bn.keep k (by omega)).set _ _ _, by omega, by omega, .inl (by omega), by omega, by omega, by omega, o.keep kS (by omega)⟩
end G294
namespace Go.Proofs.Ytjklngheehhggaa
open Go.RowKit G294

set_option maxRecDepth 100000 in
set_option maxHeartbeats 4000000 in
theorem peelDrops_own (vl : Value) (l : List Sh) (b : Int) (w : World) (hvl : SeenH w vl l) :
    Calls Try.prog 15 #[vl, .int .i64 b] w (RetPOk 9 4 w (pelR l b) (pelOk l b)) := by
  have HVL := Lib.hid hvl
  have a1 := turn_alloc w (.cells #[.slice none 0 0, .slice none 0 0, .int .i64 0] 33)
  have br := boxT_new w (.slice none 0 0) (.slice none 0 0) (.int .i64 0) 33
  have z1 := World.size_alloc w (.cells #[.slice none 0 0, .slice none 0 0, .int .i64 0] 33)
  generalize hwa : (w.alloc (.cells #[.slice none 0 0, .slice none 0 0, .int .i64 0] 33)) = wa at *
  have HWA := Lib.hid hwa
  have HKA := Lib.hid a1
  have HR := Lib.hid br
  have hlt0 : w.heap.size + 1 ≤ wa.heap.size := by omega
  have HD := Lib.hid (goodDrops_any vl l wa (HVL.out.below a1.to_below))
  clear hvl a1 br z1 hwa
  by_cases h1 : dropsOk l = true
  · have H1 := Lib.hid h1
    rw [h1] at HD
    by_cases h2 : bcOk b = true
    · have hb := bcOk_b h2
      have H2 : Hid (bcOk b = true) := Lib.hid h2
      have HP := Lib.hid (pel_ok h1 h2)
      clear h1 h2
      obtain ⟨b, rfl⟩ := Int.eq_ofNat_of_zero_le (show 0 ≤ b by omega)
      have HQ : Hid (pelOk l (b : Int) = true ∧ pelR l (b : Int) = peelN l (left (pee0 b)) (pee0 b)) := Lib.hid (by rw [left_pee0]; exact HP.out)
      clear HP
      have hmk1 := makeTexts b (by omega)
      have hmk2 := makeBools b (by omega)
      have HMS := Lib.hid (fun W : World => madeStrs W b 9 (by omega))
      have HMB := Lib.hid (fun W : World => madeBools W b 4 (by omega))
      have HG := Lib.hid (pee0_good l (b := b) (by omega) (by omega))
      go_enter Try.func15, Try.ntmps15
      go_wp2_with (simp only [HWA.out])
      refine HD.out.mono ?_
      rintro e w2 ⟨rfl, k2⟩
      have s2 := k2.size
      have HK2 := Lib.hid (turn_trans HKA.out k2 (by omega))
      have HR2 := Lib.hid (HR.out.keep k2 (by omega))
      clear k2
      go_wp2_with fail
      refine (goodBlockCount_any _ _).mono ?_
      rintro e w' ⟨rfl, rfl⟩
      rw [H2.out]
      have HKX := Lib.hid (TurnIn.of_below (Below.refl w2.heap.size w2))
      go_wp2_with fail
      go_cut [6] from 18 to 22 (fun s6 wx => NewP 9 4 w2 (List.replicate b []) (List.replicate b false) 0 s6 wx)
      case first =>
        go_region_held3 (fun _ => True) (exact trivial) (fail)
        all_goals
          go_wp2_with fail
          go_meet
        all_goals first
          | exact six1 HKX.out HMS.out HMB.out
          | exact six2 HKX.out HMS.out HMB.out
          | exact six3 HKX.out HMS.out HMB.out
          | exact six4 HKX.out HMS.out HMB.out
          | exact six5 HKX.out HMS.out HMB.out
          | exact six6 HKX.out HMS.out HMB.out
          | exact (six1 HKX.out HMS.out HMB.out).drew
          | exact (six2 HKX.out HMS.out HMB.out).drew
          | exact (six3 HKX.out HMS.out HMB.out).drew
          | exact (six4 HKX.out HMS.out HMB.out).drew
          | exact (six5 HKX.out HMS.out HMB.out).drew
          | exact (six6 HKX.out HMS.out HMB.out).drew
          | exact six1 (turn_drew _) HMS.out HMB.out
          | exact six2 (turn_drew _) HMS.out HMB.out
          | exact six3 (turn_drew _) HMS.out HMB.out
          | exact six4 (turn_drew _) HMS.out HMB.out
          | exact six5 (turn_drew _) HMS.out HMB.out
          | exact six6 (turn_drew _) HMS.out HMB.out
          | skip
        all_goals trace_state
      case rest =>
        obtain ⟨B6, x6, y6, rfl, hb6, hB6, ⟨l1, h1, l2, h2, g1, g2, hd, hd1, hd2, o1, o2⟩, k6⟩ := hcut
        generalize hwc : wc = w6 at *
        clear hwc hmk1 hmk2 HMS HMB HKX
        have s6 := k6.size
        have HK6 := Lib.hid (turn_trans HK2.out k6 (by omega))
        have HR6 := Lib.hid (HR2.out.keep k6 (by omega))
        have hB0 : w.heap.size + 1 ≤ B6 := by omega
        have hB1 : B6 < w6.heap.size := hb6.lt
        have HS6 : Hid (HasP 9 4 B6 (w.heap.size + 1) (pee0 b) w6) := Lib.hid ⟨x6, y6, l1, h1, l2, h2, hb6, by omega, by omega, hd, hd1, hd2, o1, o2⟩
        have HLN := Lib.hid (left_pee0 b)
        clear hb6 o1 o2 k6 hd hd1 hd2 g1 g2 s2 HK2 HR2 hB6 H2
        have hwz6 : w.heap.size + 1 ≤ w6.heap.size := by omega
        clear s6 hlt0
        have HSP : Hid (∀ (W : World) (cur : Pee) (x y : Value), TurnIn 0 0 w W → peeOk l cur = true → Seen W x (strs cur.1) → Seen W y (bls cur.2.1) → Calls Try.prog 26 #[vl, .agg #[x, y, .int .i64 cur.2.2]] W (RetPOk 9 4 W (stpR l cur) (stpOk l cur))) := Lib.hid (fun W cur x y t _ hx hy => stepPeel_own vl x y l cur W (HVL.out.below t.to_below) hx hy)
        obtain ⟨x, y, l1, h1, l2, h2, hbx, _, _, _, _, _, o1, o2⟩ := HS6.out
        have HL9 := Lib.hid (HSP.out w6 (pee0 b) x y HK6.out HG.out o1.seen o2.seen)
        obtain ⟨A1, n1, c1, rfl⟩ := o1.isSlice
        obtain ⟨A2, n2, c2, rfl⟩ := o2.isSlice
        obtain ⟨b0, b1, b2, b3, b4, b5, b6⟩ := hbx
        clear o1 o2
        have hp00 : (pee0 b).2.2 = 0 := rfl
        have HP00 := Lib.hid hp00
        rw [hp00] at HL9 b2
        clear hp00
        go_wp2_with fail
        refine HL9.out.mono ?_
        rintro e w7 ⟨x4, y4, rfl, o4, k4⟩
        obtain ⟨A4, n4, c4, A5, n5, c5, rfl, rfl⟩ := o4.isSlice
        have HST0 := Lib.hid (HS6.out.keep (turn_trans k4 (turn_alloc w7 (.cells #[.slice A4 n4 c4, .slice A5 n5 c5, .int .i64 (stpR l (pee0 b)).2.2] 33)) (by omega)))
        have HS7 := Lib.hid (has7_new (T := 33) (B6 := B6) (lo0 := w.heap.size + 1) hwz6 hB1 k4 o4)
        have s7 := k4.size
        have HKN0 := Lib.hid (turn_trans HK6.out (turn_trans k4 (turn_alloc w7 (.cells #[.slice A4 n4 c4, .slice A5 n5 c5, .int .i64 (stpR l (pee0 b)).2.2] 33)) (by omega)) (by omega))
        have HRN0 := Lib.hid (HR6.out.keep (turn_trans k4 (turn_alloc w7 (.cells #[.slice A4 n4 c4, .slice A5 n5 c5, .int .i64 (stpR l (pee0 b)).2.2] 33)) (by omega)) (by omega))
        have HSZ0 := Lib.hid (show w6.heap.size ≤ (w7.alloc (.cells #[.slice A4 n4 c4, .slice A5 n5 c5, .int .i64 (stpR l (pee0 b)).2.2] 33)).heap.size by rw [World.size_alloc]; omega)
        clear k4 o4 b0 b1 b2 b3 b4 b5 b6 HL9 s7
        have hso : ∃ zz : Bool, zz = stpOk l (pee0 b) := ⟨_, rfl⟩
        go_wp2_with fail
        go_loopw [7, 8] (fun s7 s8 wr => ∃ (cur : Pee) (B7 : Nat), s7 = .pointer (some ⟨B7, 0, none⟩) ∧ s8 = .bool (stpOk l cur) ∧ Hid (peeOk l cur = true ∧ peelN l (left (pee0 b)) (pee0 b) = peelN l (left cur) cur) ∧ Hid (HasP 9 4 B6 (w.heap.size + 1) cur wr) ∧ Hid (Has7 9 4 B6 B7 (w.heap.size + 1) (stpR l cur) wr) ∧ Hid (BoxT w.heap.size (.slice none 0 0) (.slice none 0 0) (.int .i64 0) wr) ∧ Hid (TurnIn 0 0 w wr) ∧ w6.heap.size ≤ wr.heap.size)
          (fun _ _ wr => meas B6 wr)
        case atStart => exact ⟨pee0 b, _, rfl, rfl, Lib.hid ⟨HG.out, rfl⟩, HST0, HS7, HRN0, HKN0, HSZ0.out⟩
        case round =>
          obtain ⟨cur, B7, rfl, rfl, HC, HS, HS7r, HRR, HKR, hsz⟩ := hrel
          have HPP := Lib.hid (peeOk_iff.1 HC.out.1)
          obtain ⟨x, y, l1, h1, l2, h2, hbx, g1, g2, hd, hd1, hd2, o1, o2⟩ := HS.out
          have hmany := HPP.out.many_le
          have HBX := Lib.hid hbx
          have HOP : Hid (∀ W', TurnIn (w.heap.size) (w.heap.size + 1) wr W' → OwnP 9 4 W' w.heap.size W'.heap.size x y cur) := Lib.hid (fun W' t => ⟨l1, h1, l2, h2, by omega, by have := o1.2.1; have := t.size; omega, by omega, by have := o2.2.1; have := t.size; omega, hd, o1.keep t (by omega), o2.keep t (by omega)⟩)
          obtain ⟨A1, n1, c1, rfl⟩ := o1.isSlice
          obtain ⟨A2, n2, c2, rfl⟩ := o2.isSlice
          obtain ⟨b0, b1, b2, b3, b4, b5, b6⟩ := hbx
          clear o1 o2 hd hd1 hd2 g1 g2
          rcases hst : stepP l cur with _ | q
          · have hq1 := (stpOk_none hst).1
            have HF : Hid (pelR l (b : Int) = cur) := Lib.hid (by rw [HQ.out.2, HC.out.2]; exact peelN_none hst _)
            rw [hq1]
            clear hst hq1
            generalize hzz : cur.2.2 = zz at *
            have HZZ := Lib.hid hzz
            clear hzz
            have kS := turn_set3 wr w.heap.size (.slice A1 n1 c1) (.slice A2 n2 c2) (.int .i64 zz)
            have kend := turn_old HKR.out kS (Nat.le_refl _)
            have HF2 := Lib.hid (HOP.out _ kS)
            have HF3 := Lib.hid kend
            clear kS kend
            obtain ⟨y0, y1, y2, y3, y4, y5, y6⟩ := HRR.out
            go_wp2_with fail
            refine bodyPost_ret (v := .tuple #[.agg #[.slice A1 n1 c1, .slice A2 n2 c2, .int .i64 zz], .bool true]) (by simp [results, Try.results15, go_sem, y0, y1, y2, y3, y4, y5]) rfl ?_
            exact ⟨_, _, by rw [HF.out, HQ.out.1, HZZ.out], by rw [HF.out]; exact HF2.out, HF3.out⟩
          · obtain ⟨hq1, hq2⟩ := stpOk_step H1.out HC.out.1 hst
            rw [hq1]
            rw [hq2] at HS7r
            obtain ⟨hl1, _, _, hl4⟩ := stepP_left hst HPP.out.kl
            have HC2 : Hid (peeOk l q = true ∧ peelN l (left (pee0 b)) (pee0 b) = peelN l (left q) q) := Lib.hid ⟨stepP_good H1.out HC.out.1 hst, by rw [HC.out.2, ← hl1]; exact peelN_some hst _⟩
            have hq12 := (peeOk_iff.1 HC2.out.1).many_le
            have HQ4 := Lib.hid hl4
            clear hst hq1 hq2 hl1 hl4
            obtain ⟨x7, y7, lo, hi, hb7, e1, e2, e3, e4, e5, e6, o7⟩ := HS7r.out
            have HO7 := Lib.hid o7
            have HB7 := Lib.hid hb7
            obtain ⟨A7, n7, c7, A8, n8, c8, rfl, rfl⟩ := o7.isSlice
            have k1 := turn_set3 wr B6 (.slice A7 n7 c7) (.slice A8 n8 c8) (.int .i64 q.2.2)
            have z1 : (((wr.setCell ⟨B6, 0, none⟩ (.slice A7 n7 c7)).setCell ⟨B6, 1, none⟩ (.slice A8 n8 c8)).setCell ⟨B6, 2, none⟩ (.int .i64 q.2.2)).heap.size = wr.heap.size := by simp
            have k2 := turn_alloc (((wr.setCell ⟨B6, 0, none⟩ (.slice A7 n7 c7)).setCell ⟨B6, 1, none⟩ (.slice A8 n8 c8)).setCell ⟨B6, 2, none⟩ (.int .i64 q.2.2)) (.cells #[.slice A7 n7 c7, .slice A8 n8 c8, .int .i64 q.2.2] 33)
            have z2 := World.size_alloc (((wr.setCell ⟨B6, 0, none⟩ (.slice A7 n7 c7)).setCell ⟨B6, 1, none⟩ (.slice A8 n8 c8)).setCell ⟨B6, 2, none⟩ (.int .i64 q.2.2)) (.cells #[.slice A7 n7 c7, .slice A8 n8 c8, .int .i64 q.2.2] 33)
            have o8 := (o7.keep k1 (by omega)).keep k2 (by omega)
            have kw := turn_trans (turn_old HKR.out k1 (by omega)) k2 (by omega)
            have HL9 := Lib.hid (HSP.out _ q _ _ kw HC2.out.1 o8.seen1 o8.seen2)
            have b61 := (HBX.out.set (.slice A7 n7 c7) (.slice A8 n8 c8) (.int .i64 q.2.2))
            have b71 := hb7.keep k1 (by omega)
            have b62 := b61.keep k2 (by omega)
            have r2 := (HRR.out.keep k1 (by omega)).keep k2 (by omega)
            have HR2x := Lib.hid r2
            have HB62 := Lib.hid b62
            have HKW := Lib.hid kw
            have HZ2 := Lib.hid (z2.trans (congrArg (· + 1) z1))
            have HLO : Hid (∃ lo hi, w.heap.size + 1 ≤ lo ∧ B6 < lo ∧ hi ≤ wr.heap.size ∧ OwnP 9 4 wr lo hi (.slice A7 n7 c7) (.slice A8 n8 c8) q) := Lib.hid ⟨lo, hi, e1, e2, e6, o7⟩
            obtain ⟨t0, t1, t2, _, _, _, _⟩ := hb7
            obtain ⟨u0, u1, u2, _, _, _, _⟩ := b71
            obtain ⟨v0, v1, v2, _, _, _, _⟩ := b62
            clear k1 k2 z1 z2 o7 o8 kw b61 r2 e3 e6
            have HBN := Lib.hid (boxT_new (((wr.setCell ⟨B6, 0, none⟩ (.slice A7 n7 c7)).setCell ⟨B6, 1, none⟩ (.slice A8 n8 c8)).setCell ⟨B6, 2, none⟩ (.int .i64 q.2.2)) (.slice A7 n7 c7) (.slice A8 n8 c8) (.int .i64 q.2.2) 33)
            go_wp2_with fail
            refine HL9.out.mono ?_
            rintro e w4 ⟨x4, y4, rfl, o4, k4⟩
            obtain ⟨A4, n4, c4, A5, n5, c5, rfl, rfl⟩ := o4.isSlice
            obtain ⟨hn1, hn2⟩ := has_turn HS.out HB7.out HLO.out (by omega) k4 o4
            have HN1 := Lib.hid hn1
            have HN2 := Lib.hid hn2
            have s4 := k4.size
            rw [HZ2.out] at s4
            have bn := HBN.out
            rw [show (((wr.setCell ⟨B6, 0, none⟩ (.slice A7 n7 c7)).setCell ⟨B6, 1, none⟩ (.slice A8 n8 c8)).setCell ⟨B6, 2, none⟩ (.int .i64 q.2.2)).heap.size = wr.heap.size by simp] at bn
            have bn4 := bn.keep k4 (by omega)
            have kS := turn_set3 w4 wr.heap.size (.slice A4 n4 c4) (.slice A5 n5 c5) (.int .i64 (stpR l q).2.2)
            have HKN := Lib.hid (turn_old (turn_trans HKW.out k4 (by omega)) kS (by omega))
            have HRN := Lib.hid ((HR2x.out.keep k4 (by omega)).keep kS (by omega))
            have HM2 := Lib.hid ((HB62.out.keep k4 (by omega)).keep kS (by omega)).c2
            have HM1 := Lib.hid HBX.out.c2
            have sS := kS.size
            have HSZ := Lib.hid (show w6.heap.size ≤ (((w4.setCell ⟨wr.heap.size, 0, none⟩ (.slice A4 n4 c4)).setCell ⟨wr.heap.size, 1, none⟩ (.slice A5 n5 c5)).setCell ⟨wr.heap.size, 2, none⟩ (.int .i64 (stpR l q).2.2)).heap.size by omega)
            clear hn1 hn2 kS k4 o4 sS bn s4
            obtain ⟨d0, d1, d2, d3, d4, d5, d6⟩ := bn4
            go_wp2_with fail
            go_roundw
            case rel => exact ⟨q, wr.heap.size, rfl, rfl, HC2, HN1, HN2, HRN, HKN, HSZ.out⟩
            case measure =>
              rw [meas_eq HM2.out, meas_eq HM1.out]
              have := HQ4.out
              omega
    · have h2' : bcOk b = false := by simpa using h2
      have HF := Lib.hid (pel_bad (l := l) (b := b) (.inr h2'))
      have H2 : Hid (bcOk b = false) := Lib.hid h2'
      clear h1 h2 h2'
      go_enter Try.func15, Try.ntmps15
      go_wp2_with (simp only [HWA.out])
      refine HD.out.mono ?_
      rintro e w2 ⟨rfl, k2⟩
      have s2 := k2.size
      have HK2 := Lib.hid (turn_trans HKA.out k2 (by omega))
      have HR2 := Lib.hid (HR.out.keep k2 (by omega))
      clear k2
      go_wp2_with fail
      refine (goodBlockCount_any _ _).mono ?_
      rintro e w' ⟨rfl, rfl⟩
      rw [H2.out]
      have kS := turn_set3 w2 w.heap.size (.slice none 0 0) (.slice none 0 0) (.int .i64 0)
      have kend := turn_old HK2.out kS (Nat.le_refl _)
      have send := kend.size
      obtain ⟨y0, y1, y2, y3, y4, y5, y6⟩ := HR2.out
      go_wp2_with fail
      refine bodyPost_ret (v := .tuple #[.agg #[.slice none 0 0, .slice none 0 0, .int .i64 0], .bool false]) (by simp [results, Try.results15, go_sem, y0, y1, y2, y3, y4, y5]) rfl ?_
      exact ⟨_, _, by rw [HF.out.1, HF.out.2], by rw [HF.out.2]; exact OwnP.nil _ _ _ _ send, kend⟩
  · have h1' : dropsOk l = false := by simpa using h1
    have HF := Lib.hid (pel_bad (l := l) (b := b) (.inl h1'))
    rw [h1'] at HD
    clear h1 h1'
    go_enter Try.func15, Try.ntmps15
    go_wp2_with (simp only [HWA.out])
    refine HD.out.mono ?_
    rintro e w2 ⟨rfl, k2⟩
    have s2 := k2.size
    have kS := turn_set3 w2 w.heap.size (.slice none 0 0) (.slice none 0 0) (.int .i64 0)
    have kend := turn_old (turn_trans HKA.out k2 (by omega)) kS (Nat.le_refl _)
    have send := kend.size
    obtain ⟨y0, y1, y2, y3, y4, y5, y6⟩ := HR.out.keep k2 (by omega)
    go_wp2_with fail
    refine bodyPost_ret (v := .tuple #[.agg #[.slice none 0 0, .slice none 0 0, .int .i64 0], .bool false]) (by simp [results, Try.results15, go_sem, y0, y1, y2, y3, y4, y5]) rfl ?_
    exact ⟨_, _, by rw [HF.out.1, HF.out.2], by rw [HF.out.2]; exact OwnP.nil _ _ _ _ send, kend⟩

end Go.Proofs.Ytjklngheehhggaa
