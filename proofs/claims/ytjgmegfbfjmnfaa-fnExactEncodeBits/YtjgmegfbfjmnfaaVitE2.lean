/- Chapter 10: EncodeBits: the program's. -/
import Derived.Test.YtjgmegfbfjmnfaaVitE
import Derived.Test.YtjgmegfbfjmnfaaShardMem
set_option linter.unusedSimpArgs false
set_option linter.unusedVariables false
namespace G294
open Go Go.RowKit
def encS (s : List UInt8) : List UInt8 := s ++ [48, 48]
def encF (s : List UInt8) (k : Nat) : List UInt8 := raw (encT 0 ((encS s).take k))
def encE (s : List UInt8) (k : Nat) : Nat := endT 0 ((encS s).take k)
theorem encS_len (s : List UInt8) : (encS s).length = s.length + 2 := by simp [encS]
theorem enc_step (s : List UInt8) (hs : s.all isBitC = true) {k : Nat} (hk : k < s.length + 2) :
    encF s (k + 1) = encF s k ++ [(raw (encS s)).getD k 0 ^^^ regH (encE s k) ^^^ regL (encE s k), (raw (encS s)).getD k 0 ^^^ regL (encE s k), (raw (encS s)).getD k 0 ^^^ regH (encE s k)] ∧
    regH (encE s (k + 1)) = (raw (encS s)).getD k 0 ∧ regL (encE s (k + 1)) = regH (encE s k) := by
  have hl : k < (encS s).length := by rw [encS_len]; exact hk
  have hb : (encS s).all isBitC = true := by simp [encS, hs, isBitC]
  have hbk : isBitC ((encS s).getD k 0) = true := by rw [getD_len hl]; exact List.all_eq_true.1 hb _ (List.getElem_mem hl)
  have h4 : encE s k < 4 := endT_lt (by omega) _
  have e : (raw (encS s)).getD k 0 = UInt8.ofNat (bv ((encS s).getD k 0)) := by rw [raw_getD _ hl, raw_bit hbk]
  rw [e]
  refine ⟨?_, ?_⟩
  · show raw (encT 0 ((encS s).take (k + 1))) = _
    rw [take_snocD _ hl, encT_snoc, raw_append]
    show encF s k ++ raw (outN (encE s k) (bv ((encS s).getD k 0))) = _
    rw [← outs_raw _ h4 _ (bv_lt _)]
  · show regH (endT 0 ((encS s).take (k + 1))) = _ ∧ regL (endT 0 ((encS s).take (k + 1))) = _
    rw [take_snocD _ hl, endT_snoc]
    exact reg_next _ h4 _ (bv_lt _)
theorem encF_end (s : List UInt8) : txt (encF s (s.length + 2)) = encT 0 (s ++ [48, 48]) := by
  unfold encF
  rw [List.take_of_length_le (by rw [encS_len]; exact Nat.le_refl _), txt_raw]; rfl
theorem encF_len (s : List UInt8) {k : Nat} (hk : k ≤ s.length + 2) : (encF s k).length = 3 * k := by
  simp [encF, encS_len]; omega
theorem prsR_yes {s : List UInt8} {m : Nat} (h : bitsOk s m = true) : prsR s m = raw s := if_pos h
theorem prsR_no {s : List UInt8} {m : Nat} (h : bitsOk s m = false) : prsR s m = [] := if_neg (by rw [h]; decide)
end G294
namespace Go.Proofs.Ytjgmegfbfjmnfaa
open Go.RowKit G294

set_option maxRecDepth 100000 in
set_option maxHeartbeats 4000000 in
theorem encodeBits_own (s : List UInt8) (w : World) (hs : s.length ≤ 1000000000000) : Calls Try.prog 20 #[.string (str s)] w (RetStrOk w (encR10 s) (encOk10 s)) := by
  obtain ⟨i0, hi0, hz0, hz1, hz2⟩ := info_parts infoByte
  by_cases h : encOk10 s = true
  · have H : Hid (bitsOk s 30 = true) := h
    have HO := Lib.hid h
    have HE : Hid (txt (encF s (s.length + 2)) = encR10 s) := by show _ = _; rw [encF_end, encR10_yes h]
    have hl := (bitsOk_b h).1
    have HSTEP : Hid (∀ k, k < s.length + 2 → _) := fun k hk => enc_step s (bitsOk_b h).2 (k := k) hk
    have HFL : Hid (∀ k, k ≤ s.length + 2 → (encF s k).length = 3 * k) := fun k hk => encF_len s hk
    have HP := Lib.hid (prsR_yes H.out)
    have HRZ : Hid (bys (raw s) ++ List.replicate 2 (.int .u8 0) = bys (raw (encS s))) := by show _ = _; simp [encS, raw, bys]
    have HRL : Hid ((raw (encS s)).length = s.length + 2) := by show _ = _; rw [raw_len, encS_len]
    have hF0 : encF s 0 = [] := rfl
    have hE0 : encE s 0 = 0 := rfl
    have HF0 := Lib.hid hF0
    have HE0 := Lib.hid hE0
    have HRS : Hid ((raw s).length = s.length) := raw_len s
    generalize encF s = F at *
    generalize encE s = E at *
    generalize raw (encS s) = r at *
    have HPB := Lib.hid (parsedBits_own s 30 w (by omega) hs)
    generalize hnn : s.length = n at *
    clear h hF0 hE0 hnn
    rw [← HE.out]
    go_enter Try.func20, Try.ntmps20
    go_wp2_with fail
    refine HPB.out.mono ?_
    rintro e w1 ⟨v1, rfl, o1, k1⟩
    rw [H.out]
    rw [HP.out] at o1
    have s1 := k1.size
    obtain ⟨B, hB⟩ : ∃ B, B = w1.heap.size := ⟨_, rfl⟩
    have hOv := o1.1
    rw [HRS.out] at hOv
    have hOb : ∀ g, v1.ownBlock = some g → g < w1.heap.size := o1.2.2
    obtain ⟨v2, w3, hap, ho2, hg2, hv2⟩ := run_append_zeros_own (P := Try.prog) (w1.alloc (.cells #[.int .u8 0, .int .u8 0] 68)) w.heap.size 22 3 22 5 i0 (.int .u8 0) .i64 .i64 Try.underlying22 Try.underlying3 hi0 hz0 hz1 rfl rfl v1 n _ (hOv.alloc _) 2 (by omega) (by omega) (by omega) (by simp; omega)
    rw [HRZ.out] at ho2
    have HAP := Lib.hid hap
    have hbx := (boxV2_new w1 (.int .u8 0) (.int .u8 0) 68)
    have t3 : TurnIn w.heap.size w1.heap.size (w1.alloc (.cells #[.int .u8 0, .int .u8 0] 68)) w3 := TurnIn.of_grown hg2 (fun g e => ⟨(hOv.lt g e).1, hOb g e⟩)
    have hbx3 := hbx.keep t3 (by omega)
    have k3 : TurnIn 0 0 w w3 := by
      refine TurnIn.of_below (Below.grown ((k1.to_below).alloc s1 _) hg2 (by simp; omega) (fun g e => (hOv.lt g e).1))
    have s3 := t3.size
    simp only [World.size_alloc] at s3 hv2
    obtain ⟨g2, c2, rfl, hg2lt, hg2B, hcm⟩ : ∃ g c, v2 = .slice (some ⟨g, 0, none⟩) (n + 2) c ∧ g < w3.heap.size ∧ g ≠ w1.heap.size ∧ c ≤ maxLen := by
      rcases ho2.2 with ⟨_, hn⟩ | ⟨g, cap, cur, hh, hb, hg, hc1, hc2, _⟩
      · omega
      · refine ⟨g, cap, hh, (Array.getElem?_eq_some_iff.1 hg).1, ?_, hc2⟩
        rw [hh] at hv2
        rcases hv2 with e | e
        · have := hOb g (by rw [← e]; rfl)
          omega
        · simp only [Value.ownBlock, Option.some.injEq] at e
          omega
    have HCL : Hid (∀ k, k < n + 2 → w3.cell? ⟨g2, k, none⟩ = some (.int .u8 ((r.getD k 0).toNat : Int))) := fun k hk => by
      have hk2 : k < r.length := by rw [HRL.out]; exact hk
      have := ho2.cells (g := g2) rfl k _ (bys_get r k hk2)
      rw [Addr.add_lit, Nat.zero_add] at this
      rw [this, getD_len hk2]
    rw [← hB] at hbx3 hg2B s3 s1
    clear hap ho2 hv2 hOv hOb o1 hbx t3 hg2
    unfold maxLen at hcm
    have hHZ : Hid (((regH (E 0)).toNat : Int) = 0 ∧ ((regL (E 0)).toNat : Int) = 0) := by rw [HE0.out]; exact ⟨rfl, rfl⟩
    have hbx4 : BoxV2 B (.int .u8 ((regH (E 0)).toNat : Int)) (.int .u8 ((regL (E 0)).toNat : Int)) w3 := by rw [hHZ.out.1, hHZ.out.2]; exact hbx3
    have HBX := Lib.hid hbx4
    have HK3 := Lib.hid k3
    clear hbx3 hbx4 k3 k1
    go_wp2_with (at_builtin; refine Lib.wpList_append_run _ rfl _ _ _ _ rfl _ _ rfl rfl _ _ HAP.out ?_)
    rw [← hB]
    clear hB HAP
    go_wp2_with fail
    go_loopw [7, 20] (fun o i wr => ∃ k : Nat, k ≤ n + 2 ∧ i = .int .i64 k ∧ wr.ownsRow w3.heap.size 5 1 o (3 * k) (bys (F k)) ∧ BoxV2 B (.int .u8 ((regH (E k)).toNat : Int)) (.int .u8 ((regL (E k)).toNat : Int)) wr ∧ TurnIn B (B + 1) w3 wr)
      (fun _ i _ => n + 2 - (intOf i).toNat)
    case atStart => exact ⟨0, Nat.zero_le _, rfl, by rw [HF0.out]; exact World.ownsRow_nil _ _ _ _, HBX.out, ⟨rfl, rfl, rfl, Nat.le_refl _, fun _ _ _ => rfl⟩⟩
    case round =>
      obtain ⟨k, hk, rfl, hown, hbx, kr⟩ := hrel
      have zr := kr.size
      by_cases hlt : k < n + 2
      · have hki : (k : Int) < (n : Int) + 2 := by omega
        have hcx := (World.cell?_of_block (a := ⟨g2, k, none⟩) (kr.block g2 hg2lt (by omega))).trans (HCL.out k hlt)
        have HST := Lib.hid (HSTEP.out k hlt)
        have q0 := hbx.c0
        have q1 := hbx.c1
        have qf0 := hbx.f0
        have qf1 := hbx.f1
        have ql := hbx.lt
        have HBX2 := Lib.hid hbx
        have HKR := Lib.hid kr
        have HOW := Lib.hid hown
        obtain ⟨Ao, co, ho⟩ := own_slice hown
        subst ho
        generalize r.getD k 0 = b at *
        have HEQ : Hid (regH (E (k + 1)) = b ∧ regL (E (k + 1)) = regH (E k)) := HST.out.2
        generalize regH (E k) = X at *
        generalize regL (E k) = L at *
        have HOUT : Hid (∀ W, Calls Try.prog 50 #[.agg #[.int .u8 (X.toNat : Int), .int .u8 (L.toNat : Int)], .int .u8 (b.toNat : Int)] W (RetBytes 5 W [b ^^^ X ^^^ L, b ^^^ L, b ^^^ X])) := fun W => outputs_own X L b W
        have HAFT : Hid (∀ W, Calls Try.prog 51 #[.agg #[.int .u8 (X.toNat : Int), .int .u8 (L.toNat : Int)], .int .u8 (b.toNat : Int)] W (RetReg W b X)) := fun W => after_own X L b W
        clear hbx kr hown
        go_wp2_with fail
        refine (HOUT.out _).mono ?_
        rintro e w4 ⟨vo, rfl, oo, k4⟩
        have s4 := k4.size
        obtain ⟨go, co2, hvo, hgo1, hgo2, _, hcm2⟩ := oo.slice (by simp)
        simp only [List.length_cons, List.length_nil, Nat.zero_add, Nat.reduceAdd] at hvo
        subst hvo
        have HYS : Hid (∀ j y, (bys [b ^^^ X ^^^ L, b ^^^ L, b ^^^ X])[j]? = some y → w4.cell? ((⟨go, 0, none⟩ : Addr).add j) = some y) := fun j y hj => oo.1.cells (g := go) rfl j y hj
        have HOW4 := Lib.hid (owns_turn0 HOW.out k4)
        have q0' := cell_turn k4 q0 ql
        have q1' := cell_turn k4 q1 ql
        have qf0' := frozen_turn k4 qf0 ql
        have qf1' := frozen_turn k4 qf1 ql
        have HB4 := Lib.hid (HBX2.out.keep k4 (by omega))
        have HK4 := Lib.hid (turn_trans HKR.out k4 (by omega))
        clear oo q0 q1 qf0 qf1
        go_wp2_with (at_builtin; refine wpList_appendRow rfl _ _ _ rfl w3.heap.size 5 _ _ Try.underlying22 infoByte rfl _ (3 * k) _ rfl HOW4.out ⟨go, 0, none⟩ 3 co2 _ rfl ?c0 HYS.out (fun y hy => bys_one y _ hy) ?c1 ?c2 ?c3 ?_)
        case c0 => simp
        case c1 => omega
        case c2 => omega
        case c3 => omega
        intro v5 w5 ho5 hg5 hv5
        have k5 : TurnIn w3.heap.size w4.heap.size w4 w5 := TurnIn.of_grown hg5 (fun g e => ⟨(HOW4.out.lt g e).1, (HOW4.out.lt g e).2⟩)
        have s5 := k5.size
        have hb5 := HB4.out.keep k5 (by omega)
        have e0 := hb5.c0
        have e1 := hb5.c1
        have ef0 := hb5.f0
        have ef1 := hb5.f1
        have el := hb5.lt
        have HB5 := Lib.hid hb5
        have HK5 : Hid (TurnIn B (B + 1) w3 w5) := turn_trans HK4.out k5 (by omega)
        have HO5 : Hid (w5.ownsRow w3.heap.size 5 1 v5 (3 * (k + 1)) (bys (F (k + 1)))) := by
          show w5.ownsRow _ _ _ _ _ _
          rw [HST.out.1, show 3 * (k + 1) = 3 * k + 3 by omega]
          have e : bys (F k ++ [b ^^^ X ^^^ L, b ^^^ L, b ^^^ X]) = bys (F k) ++ bys [b ^^^ X ^^^ L, b ^^^ L, b ^^^ X] := by simp [bys]
          rw [e]; exact ho5
        clear hb5 ho5 hg5 hv5 k5
        go_wp2_with fail
        refine (HAFT.out _).mono ?_
        rintro e w6 ⟨rfl, k6⟩
        have s6 := k6.size
        have p0 := cell_turn k6 e0 el
        have p1 := cell_turn k6 e1 el
        have pf0 := frozen_turn k6 ef0 el
        have pf1 := frozen_turn k6 ef1 el
        have hb6 := (HB5.out.keep k6 (by omega)).set (.int .u8 (b.toNat : Int)) (.int .u8 (X.toNat : Int))
        have t6 := turn_set2 w6 B (.int .u8 (b.toNat : Int)) (.int .u8 (X.toNat : Int))
        have HB6 := Lib.hid hb6
        have HK6 := Lib.hid (turn_trans (turn_trans HK5.out k6 (by omega)) t6 (by omega))
        have ho6 := owns_turn0 HO5.out k6
        have HO6 := Lib.hid (owns_turn2 (hi := w5.heap.size) ho6 (fun g e => (HO5.out.lt g e).2) t6 (by omega))
        clear hb6 t6 ho6
        unfold regV
        go_wp2_with fail
        go_roundw
        case rel => exact ⟨k + 1, by omega, by go_num, HO6.out, by rw [HEQ.out.1, HEQ.out.2]; exact HB6.out, HK6.out⟩
        case measure => simp [intOf]; omega
      · have hke : k = n + 2 := by omega
        have hki : ¬ (k : Int) < (n : Int) + 2 := by omega
        have HO2 : Hid (Seen wr u7 (bys (F (n + 2)))) := by
          have h2 := Seen.of_own hown
          rw [hke] at h2; exact h2
        have HBT := Lib.hid (bitText_own u7 (F (n + 2)) wr HO2.out (by rw [HFL.out _ (by omega)]; omega))
        have HKR : Hid (TurnIn 0 0 w wr) := by
          have h1 := HK3.out
          exact ⟨kr.os.trans h1.os, kr.tape.trans h1.tape, kr.output.trans h1.output, by omega, fun i hi _ => (kr.block i (by have := h1.size; omega) (by omega)).trans (h1.block i hi (by omega))⟩
        clear hbx kr hown
        go_wp2_with fail
        refine HBT.out.mono ?_
        rintro e w4 ⟨rfl, k4⟩
        go_wp2_with fail
        go_ret2
        exact ⟨by rw [HO.out]; rfl, turn_trans HKR.out k4 (by omega)⟩
  · have HO : Hid (encOk10 s = false) := by show encOk10 s = false; simpa using h
    have H : Hid (bitsOk s 30 = false) := HO.out
    have HE := Lib.hid (encR10_no HO.out)
    have HPB := Lib.hid (parsedBits_own s 30 w (by omega) hs)
    clear h
    go_enter Try.func20, Try.ntmps20
    go_wp2_with fail
    refine HPB.out.mono ?_
    rintro e w1 ⟨v1, rfl, o1, k1⟩
    rw [H.out]
    go_wp2_with fail
    go_ret2
    exact ⟨by rw [HE.out, HO.out]; rfl, k1⟩

end Go.Proofs.Ytjgmegfbfjmnfaa
