/- Joined texts: StpT. -/
import Derived.Test.YtjklngheehhggaaBd18
import Derived.Test.YtjklngheehhggaaBd13
set_option linter.unusedSimpArgs false
set_option linter.unusedVariables false
/- Chapter 9: StepPeel: the model's. -/
namespace G294
open Go Go.RowKit
theorem stq_stp {l : List Sh} {p : Pee} (hl : dropsOk l = true) (h : 0 < l.length → peeOk l p = true) : stpOk l p = stqOk l p ∧ stpR l p = stqR l p := by
  rcases hs : stepP l p with _ | q
  · obtain ⟨a, b⟩ := stpOk_none (p := p) hs
    rw [a, b]
    unfold stqOk stqR
    rw [hs]
    exact ⟨rfl, rfl⟩
  · have hp : peeOk l p = true := by
      cases l with
      | nil => cases hs
      | cons d l => exact h (by simp)
    obtain ⟨a, b⟩ := stpOk_step hl hp hs
    rw [a, b]
    unfold stqOk stqR
    rw [hs]
    exact ⟨rfl, rfl⟩
end G294
namespace Go.Proofs.Ytjklngheehhggaa
open Go.RowKit G294

set_option maxRecDepth 100000 in
set_option maxHeartbeats 4000000 in
theorem specStep_own (vl v u : Value) (l : List Sh) (p : Pee) (w : World) (hvl : SeenH w vl l) (hv : Seen w v (strs p.1)) (hu : Seen w u (bls p.2.1)) :
    Calls Try.prog 24 #[vl, .agg #[v, u, .int .i64 p.2.2]] w (RetPOk 9 4 w (stpR l p) (stpOk l p)) := by
  have HVL := Lib.hid hvl
  obtain ⟨A, c, hvv⟩ := hv.len
  rw [strs_length] at hvv
  subst hvv
  obtain ⟨B, d, huu⟩ := hu.len
  rw [bls_length] at huu
  subst huu
  have a1 := turn_alloc w (.cells #[.slice A p.1.length c, .slice B p.2.1.length d, .int .i64 p.2.2] 33)
  have a2 := turn_alloc (w.alloc (.cells #[.slice A p.1.length c, .slice B p.2.1.length d, .int .i64 p.2.2] 33)) (.cells #[.slice none 0 0, .slice none 0 0, .int .i64 0] 33)
  have bl := (boxT_new w (.slice A p.1.length c) (.slice B p.2.1.length d) (.int .i64 p.2.2) 33).keep a2 (by omega)
  have br := boxT_new (w.alloc (.cells #[.slice A p.1.length c, .slice B p.2.1.length d, .int .i64 p.2.2] 33)) (.slice none 0 0) (.slice none 0 0) (.int .i64 0) 33
  rw [World.size_alloc] at br
  have z2 : ((w.alloc (.cells #[.slice A p.1.length c, .slice B p.2.1.length d, .int .i64 p.2.2] 33)).alloc (.cells #[.slice none 0 0, .slice none 0 0, .int .i64 0] 33)).heap.size = w.heap.size + 2 := by simp
  have kb := turn_trans a1 a2 (by omega)
  generalize hwa : ((w.alloc (.cells #[.slice A p.1.length c, .slice B p.2.1.length d, .int .i64 p.2.2] 33)).alloc (.cells #[.slice none 0 0, .slice none 0 0, .int .i64 0] 33)) = wa at *
  have HWA := Lib.hid hwa
  have HKB := Lib.hid kb
  have HL := Lib.hid bl
  have HR := Lib.hid br
  have HV := Lib.hid hv
  have HU := Lib.hid hu
  have hz3 : w.heap.size + 2 ≤ wa.heap.size := by omega
  have HD := Lib.hid (l9Drops_any vl l wa (HVL.out.below kb.to_below))
  clear hvl hv hu a1 a2 z2 kb bl br hwa
  by_cases h1 : dropsOk l = true
  · have H1 := Lib.hid h1
    rw [h1] at HD
    clear h1
    go_enter Try.func24, Try.ntmps24
    go_wp2_with (simp only [HWA.out])
    refine HD.out.mono ?_
    rintro e w2 ⟨rfl, k2⟩
    have s2 := k2.size
    have HK2 := Lib.hid (turn_trans HKB.out k2 (by omega))
    have HR2 := Lib.hid (HR.out.keep k2 (by omega))
    have HL2 := Lib.hid (HL.out.keep k2 (by omega))
    obtain ⟨p0, p1, p2, _, _, _, _⟩ := HL2.out
    clear k2
    go_wp2_with fail
    refine (l9Peel_any vl _ _ l p _ (HVL.out.below HK2.out.to_below) (HV.out.touch HK2.out) (HU.out.touch HK2.out) H1.out).mono ?_
    rintro e w3 ⟨xb, rfl, hxb, k3⟩
    have s3 := k3.size
    have HK3 := Lib.hid (turn_trans HK2.out k3 (by omega))
    have HR3 := Lib.hid (HR2.out.keep k3 (by omega))
    replace p0 := cell_turn k3 p0 (by omega)
    replace p1 := cell_turn k3 p1 (by omega)
    replace p2 := cell_turn k3 p2 (by omega)
    have HXB := Lib.hid hxb
    clear k3 hxb
    cases xb with
    | true =>
      have HST := Lib.hid (stq_stp (p := p) H1.out (fun h => by rw [peeOk_N]; exact (HXB.out h).symm))
      have HPP := Lib.hid (fun h : 0 < l.length => peeN_b (HXB.out h).symm)
      go_wp2_with fail
      refine (l9Step_own vl _ _ l p _ _ (HVL.out.below HK3.out.to_below) (HV.out.touch HK3.out) (HU.out.touch HK3.out) H1.out rfl HPP.out).mono ?_
      rintro e w4 ⟨x, y, rfl, o4, k4⟩
      have s4 := k4.size
      obtain ⟨A4, n4, c4, A5, n5, c5, rfl, rfl⟩ := o4.isSlice
      have HR4 := HR3.out.keep k4 (by omega)
      have HST2 := HST
      generalize stqR l p = sr at *
      generalize stqOk l p = so at *
      have kS := turn_set3 w4 (w.heap.size + 1) (.slice A4 n4 c4) (.slice A5 n5 c5) (.int .i64 sr.2.2)
      have kend := turn_old (turn_trans HK3.out k4 (by omega)) kS (by omega)
      have send := kS.size
      have of := (o4.keep kS (by omega)).wider (lo' := w.heap.size) (hi' := (((w4.setCell ⟨w.heap.size + 1, 0, none⟩ (.slice A4 n4 c4)).setCell ⟨w.heap.size + 1, 1, none⟩ (.slice A5 n5 c5)).setCell ⟨w.heap.size + 1, 2, none⟩ (.int .i64 sr.2.2)).heap.size) (by omega) (by omega)
      have HF : Hid (RetPOk 9 4 w sr so (.returned (.tuple #[.agg #[.slice A4 n4 c4, .slice A5 n5 c5, .int .i64 sr.2.2], .bool so])) (((w4.setCell ⟨w.heap.size + 1, 0, none⟩ (.slice A4 n4 c4)).setCell ⟨w.heap.size + 1, 1, none⟩ (.slice A5 n5 c5)).setCell ⟨w.heap.size + 1, 2, none⟩ (.int .i64 sr.2.2))) := Lib.hid ⟨_, _, rfl, of, kend⟩
      generalize sr.2.2 = zr at *
      clear of kend kS o4 k4 send
      obtain ⟨y0, y1, y2, y3, y4, y5, y6⟩ := HR4
      go_wp2_with fail
      refine bodyPost_ret (v := .tuple #[.agg #[.slice A4 n4 c4, .slice A5 n5 c5, .int .i64 zr], .bool so]) (by simp [results, Try.results24, go_sem, y0, y1, y2, y3, y4, y5]) rfl ?_
      rw [HST.out.1, HST.out.2]
      exact HF.out
    | false =>
      have HF := Lib.hid (show stpOk l p = false ∧ stpR l p = ([], [], 0) by
        by_cases hl : 0 < l.length
        · exact stpOk_bad (.inr (by rw [peeOk_N]; exact (HXB.out hl).symm))
        · rw [List.length_eq_zero_iff.1 (by omega : l.length = 0)]; exact stpOk_none rfl)
      have kS := turn_set3 w3 (w.heap.size + 1) (.slice none 0 0) (.slice none 0 0) (.int .i64 0)
      have kend := turn_old HK3.out kS (by omega)
      have send := kend.size
      obtain ⟨y0, y1, y2, y3, y4, y5, y6⟩ := HR3.out
      go_wp2_with fail
      refine bodyPost_ret (v := .tuple #[.agg #[.slice none 0 0, .slice none 0 0, .int .i64 0], .bool false]) (by simp [results, Try.results24, go_sem, y0, y1, y2, y3, y4, y5]) rfl ?_
      exact ⟨_, _, by rw [HF.out.1, HF.out.2], by rw [HF.out.2]; exact OwnP.nil _ _ _ _ send, kend⟩
  · have h1' : dropsOk l = false := by simpa using h1
    have HF := Lib.hid (stpOk_bad (l := l) (p := p) (.inl h1'))
    rw [h1'] at HD
    clear h1 h1'
    go_enter Try.func24, Try.ntmps24
    go_wp2_with (simp only [HWA.out])
    refine HD.out.mono ?_
    rintro e w2 ⟨rfl, k2⟩
    have s2 := k2.size
    have kS := turn_set3 w2 (w.heap.size + 1) (.slice none 0 0) (.slice none 0 0) (.int .i64 0)
    have kend := turn_old (turn_trans HKB.out k2 (by omega)) kS (by omega)
    have send := kend.size
    obtain ⟨y0, y1, y2, y3, y4, y5, y6⟩ := HR.out.keep k2 (by omega)
    go_wp2_with fail
    refine bodyPost_ret (v := .tuple #[.agg #[.slice none 0 0, .slice none 0 0, .int .i64 0], .bool false]) (by simp [results, Try.results24, go_sem, y0, y1, y2, y3, y4, y5]) rfl ?_
    exact ⟨_, _, by rw [HF.out.1, HF.out.2], by rw [HF.out.2]; exact OwnP.nil _ _ _ _ send, kend⟩

end Go.Proofs.Ytjklngheehhggaa
