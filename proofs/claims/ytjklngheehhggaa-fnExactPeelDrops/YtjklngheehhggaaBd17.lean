/- Joined texts: PeeS. -/
import Derived.Test.YtjklngheehhggaaBd14
import Derived.BigQuiet
set_option linter.unusedSimpArgs false
set_option linter.unusedVariables false
/- Chapter 9: valid states of peeling: the model's. -/
namespace G294
open Go Go.RowKit
/-- some Bool, which is b under a condition -/
def RetSome (w : World) (c : Prop) (b : Bool) (e : Ending) (w' : World) : Prop := ∃ x : Bool, e = .returned (.bool x) ∧ (c → x = b) ∧ TurnIn 0 0 w w'
theorem empty_neq (t : List UInt8) : ((str t).toList == (ByteArray.mk #[]).toList) = decide (t.length = 0) := by
  rw [show ByteArray.mk #[] = str [] from rfl, str_toList, str_toList]
  by_cases h : t.length = 0
  · rw [List.length_eq_zero_iff.1 h]; rfl
  · rw [decide_eq_false h, beq_eq_false_iff_ne]
    intro e; rw [e] at h; exact h rfl
end G294
namespace Go.Proofs.Ytjklngheehhggaa
open Go.RowKit G294

set_option maxRecDepth 100000 in
set_option maxHeartbeats 4000000 in
theorem l9Peel_any (vl v u : Value) (l : List Sh) (p : Pee) (w : World) (hvl : SeenH w vl l) (hv : Seen w v (strs p.1)) (hu : Seen w u (bls p.2.1)) (hok : dropsOk l = true) :
    Calls Try.prog 50 #[vl, .agg #[v, u, .int .i64 p.2.2]] w (RetSome w (0 < l.length) (peeN (l.getD 0 (0, [])).2.length p)) := by
  obtain ⟨AL, cl, rfl, hlcl, hlcm, hlx⟩ := hvl
  obtain ⟨A, c, rfl, hlc, hcm, hx⟩ := hv
  obtain ⟨B, d, rfl, hld, hdm, hy⟩ := hu
  rw [strs_length] at hlc hx
  rw [bls_length] at hld hy
  simp only [strs_length, bls_length]
  unfold maxLen at hcm hdm hlcm
  have h40 : (l.getD 0 (0, [])).2.length ≤ 40 := by
    by_cases h : l.length = 0
    · rw [List.length_eq_zero_iff.1 h]; simp
    · have hm : l.getD 0 (0, []) ∈ l := by rw [getD_lt (by omega) (0, [])]; exact List.getElem_mem _
      exact ((dropsOk_len hok).2 _ hm).2.2.2
  have HL0 : Hid (0 < l.length → ∃ b off no s, AL = some ⟨b, off, none⟩ ∧ b < w.heap.size ∧ w.cell? ⟨b, off + 1, none⟩ = some (.string (str s)) ∧ s.length = (l.getD 0 (0, [])).2.length ∧ no = (l.getD 0 (0, [])).1) := Lib.hid (fun h => by
    obtain ⟨b, off, e, hb, hc⟩ := hlx h
    obtain ⟨⟨no, s⟩, hk0⟩ := at_lt (k := 0) (rfl : l.length = l.length) h
    have := (hc 0 _ hk0).2
    simp only [Nat.zero_mul, Nat.add_zero] at this
    have e2 : l.getD 0 (0, []) = (no, s) := by simp [List.getD, hk0]
    exact ⟨b, off, no, s, e, hb, this, by rw [e2], by rw [e2]⟩)
  generalize (l.getD 0 (0, [])).2.length = n at *
  have HBAD := Lib.hid (fun k => @peeN_bad n p k)
  have HEND := Lib.hid (@peeN_end n p)
  have HCY := Lib.hid (fun k => @cntK_yes p k)
  have HCN := Lib.hid (fun k => @cntK_no p k)
  have HCL := Lib.hid (cntK_le p)
  have HBC : Hid (bcOk p.1.length = false → peeN n p = false) := Lib.hid (fun h => by unfold peeN; rw [h]; rfl)
  have HKL : Hid (p.2.1.length ≠ p.1.length → peeN n p = false) := Lib.hid (fun h => by unfold peeN; rw [decide_eq_false h]; simp)
  have HX := Lib.hid hx
  have HY := Lib.hid hy
  clear hx hy hlx hok
  generalize hz : p.2.2 = zz at *
  obtain ⟨b, hb⟩ : ∃ b, b = p.1.length := ⟨_, rfl⟩
  obtain ⟨m, hm⟩ : ∃ m, m = p.2.1.length := ⟨_, rfl⟩
  obtain ⟨nl, hnl⟩ : ∃ nl, nl = l.length := ⟨_, rfl⟩
  have HB := Lib.hid hb
  have HMM := Lib.hid hm
  rw [← hb] at hlc HBC HKL HBAD HEND ⊢
  rw [← hm] at hld HKL HEND ⊢
  rw [← hnl] at hlcl HL0 ⊢
  have a1 := turn_alloc w (.cells #[.slice A b c, .slice B m d, .int .i64 zz] 33)
  have c0 := alloc_tri0 w (.slice A b c) (.slice B m d) (.int .i64 zz) 33
  have c1 := alloc_tri1 w (.slice A b c) (.slice B m d) (.int .i64 zz) 33
  have c2 := alloc_tri2 w (.slice A b c) (.slice B m d) (.int .i64 zz) 33
  have l1 := alloc_lt w (.cells #[.slice A b c, .slice B m d, .int .i64 zz] 33)
  clear hb hm hnl hz
  go_enter Try.func50, Try.ntmps50
  go_wp2_with fail
  generalize (w.alloc (.cells #[.slice A b c, .slice B m d, .int .i64 zz] 33)) = wa at *
  go_loopw [5, 11] (fun q i wr => ∃ k : Nat, k ≤ m ∧ i = .int .i64 k ∧ q = .int .i64 ((cntK p k : Nat) : Int) ∧ Hid (0 < nl → ∀ j, j < k → j < b → (p.1.getD j []).length = lenW n p j) ∧ Below wa.heap.size wa wr)
    (fun _ i _ => m - (intOf i).toNat)
  case atStart => exact ⟨0, Nat.zero_le _, rfl, rfl, (fun _ _ h => by omega), Below.refl _ _⟩
  case round =>
    obtain ⟨k, hk, rfl, rfl, HE, hbr⟩ := hrel
    have kr := TurnIn.of_below hbr
    have zr := kr.size
    replace c0 := cell_turn kr c0 l1
    replace c1 := cell_turn kr c1 l1
    replace c2 := cell_turn kr c2 l1
    have kk := turn_trans a1 kr (by omega)
    by_cases hlt : k < m
    · obtain ⟨bb', off', hB, hbl', hcell'⟩ := HY.out (by rw [← HMM.out]; omega)
      subst hB
      have hcy := cell_turn kk (hcell' k _ (bls_getD p.2.1 k (by rw [← HMM.out]; exact hlt))) hbl'
      have hki : (k : Int) < (m : Int) := by omega
      have hcl := HCL.out k
      have HKN : Hid (knw p k = p.2.1.getD k false) := Lib.hid rfl
      have HCY2 := Lib.hid (HCY.out k)
      have HCN2 := Lib.hid (HCN.out k)
      generalize p.2.1.getD k false = kb at *
      generalize cntK p k = cn at *
      clear hcell'
      by_cases hkb : k < b
      · have hkbi : (k : Int) < (b : Int) := by omega
        have hdb : decide ((k : Int) < (b : Int)) = true := by simp; omega
        obtain ⟨bb, off, hA, hbl, hcell⟩ := HX.out (by rw [← HB.out]; omega)
        subst hA
        have hcx := cell_turn kk (hcell k _ (strs_get p.1 k (by rw [← HB.out]; exact hkb))) hbl
        rw [← getD_lt (by rw [← HB.out]; exact hkb) []] at hcx
        have hts := str_size (p.1.getD k [])
        have hem := empty_neq (p.1.getD k [])
        have HTX : Hid ((p.1.getD k []).length = 0 → str (p.1.getD k []) = ByteArray.mk #[]) := Lib.hid (fun h => by rw [List.length_eq_zero_iff.1 h]; rfl)
        have HEX : Hid ((p.1.getD k []).length = lenW n p k → (0 < nl → ∀ j, j < k + 1 → j < b → (p.1.getD j []).length = lenW n p j)) := Lib.hid (fun h h0 j hj hjb => by
          rcases Nat.lt_or_ge j k with h' | h'
          · exact HE.out h0 j h' hjb
          · obtain rfl : j = k := by omega
            exact h)
        have HNB : Hid (nl = 0 → (0 < nl → ∀ j, j < k + 1 → j < b → (p.1.getD j []).length = lenW n p j)) := Lib.hid (fun h h0 => by omega)
        have HBD : Hid ((p.1.getD k []).length ≠ lenW n p k → (0 < nl → false = peeN n p)) := Lib.hid (fun h _ => (HBAD.out k hkb h).symm)
        have HLW : Hid (lenW n p k = if knw p k then n else 0) := Lib.hid rfl
        generalize p.1.getD k [] = tx at *
        generalize htl : tx.length = tl at *
        clear htl hcell
        cases kb
        · have HW : Hid (lenW n p k = 0) := by show _ = _; rw [HLW.out, HKN.out]; rfl
          have HCC := Lib.hid (HCN2.out HKN.out)
          by_cases ht : tl = 0
          · have hse : ((str tx).toList == (ByteArray.mk #[]).toList) = true := by rw [hem, ht]; rfl
            have hse2 : (str tx).toList.isEmpty = true := by rw [HTX.out ht, show ByteArray.mk #[] = str [] from rfl, str_toList]; rfl
            have hd40 : decide ((40 : Int) < (tl : Int)) = false := by rw [ht]; rfl
            have hd41 : decide (40 < tl) = false := by rw [ht]; rfl
            have hd42 : ¬ 40 < tl := by omega
            have HE2 := Lib.hid (HEX.out (by rw [HW.out]; exact ht))
            clear ht hem
            go_wp2_with fail
            go_quiet (fail)
            go_wp2_with fail
            go_roundw
            case rel => exact ⟨k + 1, by omega, by go_num, by rw [HCC.out], HE2.out, below_drewN hbr _⟩
            case measure => simp [intOf]; omega
          · have hse : ((str tx).toList == (ByteArray.mk #[]).toList) = false := by rw [hem, decide_eq_false ht]
            have hse2 : (str tx).toList.isEmpty = false := by
              cases h : (str tx).toList.isEmpty
              · rfl
              · rw [List.isEmpty_iff.1 h, show ByteArray.mk #[] = str [] from rfl, str_toList] at hse; exact absurd hse (by decide)
            have HF := Lib.hid (HBD.out (by rw [HW.out]; exact ht))
            clear ht hem
            go_wp2_with fail
            go_quiet (fail)
            go_wp2_with fail
            go_ret
            exact ⟨false, rfl, HF.out, turn_trans a1 (TurnIn.of_below (below_drewN hbr _)) (by omega)⟩
        · have HW : Hid (lenW n p k = n) := by show _ = _; rw [HLW.out, HKN.out]; rfl
          have HCC := Lib.hid (HCY2.out HKN.out)
          clear hem
          by_cases hn0 : 0 < nl
          · obtain ⟨b0, o0, no0, s0, hA0, hb0, hc0', hs0, _⟩ := HL0.out hn0
            subst hA0
            have hcl0 := cell_turn kk hc0' hb0
            have hsz0 := str_size s0
            rw [hs0] at hsz0
            have hni : (0 : Int) < (nl : Int) := by omega
            have hdn : decide ((0 : Int) < (nl : Int)) = true := by simp; omega
            by_cases ht : tl = n
            · have hbn : ((tl : Int) != (n : Int)) = false := by rw [ht]; simp
              have hd40 : decide ((40 : Int) < (tl : Int)) = false := by simp; omega
              have hd42 : ¬ 40 < tl := by omega
              have HE2 := Lib.hid (HEX.out (by rw [HW.out]; exact ht))
              clear ht
              go_wp2_with fail
              go_quiet (fail)
              go_wp2_with fail
              go_roundw
              case rel => exact ⟨k + 1, by omega, by go_num, by rw [HCC.out]; go_num, HE2.out, below_drewN hbr _⟩
              case measure => simp [intOf]; omega
            · have hbn : ((tl : Int) != (n : Int)) = true := by rw [bne_iff_ne]; omega
              have HF := Lib.hid (HBD.out (by rw [HW.out]; exact ht))
              clear ht
              go_wp2_with fail
              go_quiet (fail)
              go_wp2_with fail
              go_ret
              exact ⟨false, rfl, HF.out, turn_trans a1 (TurnIn.of_below (below_drewN hbr _)) (by omega)⟩
          · have hn00 : nl = 0 := by omega
            have hdn : decide ((0 : Int) < (nl : Int)) = false := by simp; omega
            have hdn2 : ¬ 0 < nl := hn0
            have HE2 := Lib.hid (HNB.out hn00)
            have HF : Hid (0 < nl → false = peeN n p) := Lib.hid (fun h => by omega)
            clear hn00 hn0
            by_cases ht : 40 < tl
            · have hd40 : decide ((40 : Int) < (tl : Int)) = true := by simp; omega
              go_wp2_with fail
              go_quiet (fail)
              go_wp2_with fail
              go_ret
              exact ⟨false, rfl, HF.out, turn_trans a1 (TurnIn.of_below (below_drewN hbr _)) (by omega)⟩
            · have hd40 : decide ((40 : Int) < (tl : Int)) = false := by simp; omega
              go_wp2_with fail
              go_quiet (fail)
              go_wp2_with fail
              go_roundw
              case rel => exact ⟨k + 1, by omega, by go_num, by rw [HCC.out]; go_num, HE2.out, below_drewN hbr _⟩
              case measure => simp [intOf]; omega
      · have hkbi : ¬ (k : Int) < (b : Int) := by omega
        have hdb : decide ((k : Int) < (b : Int)) = false := by simp; omega
        have HE2 : Hid (0 < nl → ∀ j, j < k + 1 → j < b → (p.1.getD j []).length = lenW n p j) := Lib.hid (fun h j hj hjb => HE.out h j (by omega) hjb)
        cases kb
        · have HCC := Lib.hid (HCN2.out HKN.out)
          go_wp2_with fail
          go_quiet (fail)
          go_wp2_with fail
          go_roundw
          case rel => exact ⟨k + 1, by omega, by go_num, by rw [HCC.out], HE2, below_drewN hbr _⟩
          case measure => simp [intOf]; omega
        · have HCC := Lib.hid (HCY2.out HKN.out)
          go_wp2_with fail
          go_quiet (fail)
          go_wp2_with fail
          go_roundw
          case rel => exact ⟨k + 1, by omega, by go_num, by rw [HCC.out]; go_num, HE2, below_drewN hbr _⟩
          case measure => simp [intOf]; omega
    · have hke : k = m := by omega
      have hki : ¬ (k : Int) < (m : Int) := by omega
      by_cases h1 : bcOk (b : Int) = true
      · have H1 : Hid (inB b 1 12 = true) := Lib.hid h1
        by_cases h2 : m = b
        · have hmb : ((m : Int) == (b : Int)) = true := by rw [h2]; simp
          have HF : Hid (0 < nl → (zz == ((cntK p k : Nat) : Int)) = peeN n p) := Lib.hid (fun h0 => by
            have e := HEND.out h1 h2 (fun j hj => HE.out h0 j (by omega) hj)
            rw [e, hke, h2, BEq.comm])
          generalize ((cntK p k : Nat) : Int) = cz at *
          clear h1 h2 hke
          go_wp2_with fail
          refine (l1In_any _ _ _ _).mono ?_
          rintro e w' ⟨rfl, rfl⟩
          rw [H1.out]
          go_wp2_with fail
          go_ret
          exact ⟨_, rfl, HF.out, kk⟩
        · have hmb : ((m : Int) == (b : Int)) = false := by rw [beq_eq_false_iff_ne]; omega
          have hmb2 : ¬ m = b := h2
          have HF : Hid (0 < nl → false = peeN n p) := Lib.hid (fun _ => (HKL.out h2).symm)
          clear h1 h2 hke
          go_wp2_with fail
          refine (l1In_any _ _ _ _).mono ?_
          rintro e w' ⟨rfl, rfl⟩
          rw [H1.out]
          go_wp2_with fail
          go_ret
          exact ⟨false, rfl, HF.out, kk⟩
      · have h1 : bcOk (b : Int) = false := by simpa using h1
        have H1 : Hid (inB b 1 12 = false) := Lib.hid h1
        have HF : Hid (0 < nl → false = peeN n p) := Lib.hid (fun _ => (HBC.out h1).symm)
        clear h1 hke
        go_wp2_with fail
        refine (l1In_any _ _ _ _).mono ?_
        rintro e w' ⟨rfl, rfl⟩
        rw [H1.out]
        go_wp2_with fail
        go_ret
        exact ⟨false, rfl, HF.out, kk⟩

end Go.Proofs.Ytjklngheehhggaa
