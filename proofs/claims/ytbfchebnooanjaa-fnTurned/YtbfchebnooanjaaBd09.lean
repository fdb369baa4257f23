/- Joined texts: RstS. -/
import Derived.Test.YtbfchebnooanjaaBd08
import Derived.Test.YtbfchebnooanjaaBd07
set_option linter.unusedSimpArgs false
set_option linter.unusedVariables false
/- Chapter 11: Restore, the model's. -/
namespace Go.Proofs.Ytbfchebnooanjaa
open Go.RowKit G294


set_option maxRecDepth 100000 in
set_option maxHeartbeats 4000000 in
theorem sRestore_go (s : List UInt8) (a : Nat) (w : World) (h : rtOk s a = true) (hin : Hid (a < s.length ∨ (a = 0 ∧ s = []))) : Calls Try.prog 21 #[.string (str s), .int .i64 a] w (RetStrOk w (rstR s a) (rstOk s a)) := by
  have hsz : (str s).size = s.length := str_size s
  obtain ⟨hn, a', ha', ha, hal⟩ := rtOk_b h
  obtain rfl : a = a' := by omega
  have HNX := Lib.hid (fun W => l11Next_own s W hn)
  have HNL : Hid ((natI (nxtL s)).length = s.length) := by show _ = _; rw [natI_len, nxtL_len]
  have HNG : Hid (∀ k, k < s.length → (natI (nxtL s))[k]? = some (((nxtL s).getD k 0 : Nat) : Int)) := fun k hk => natI_get (nxtL s) k (by rw [nxtL_len]; exact hk)
  have HFS := Lib.hid (folN_succ s a)
  have HFL : Hid (0 < s.length → ∀ k, folN s a k < s.length) := fun h k => folN_lt (by omega) k
  have HRN := Lib.hid (rsN_len s a)
  have HRS := Lib.hid (rsN_succ s a)
  have HR0 : Hid (rsN s a 0 = []) := rfl
  have HF0 : Hid (folN s a 0 = a) := rfl
  have HSG := Lib.hid (fun k h => str_get s k h)
  have HTF := Lib.hid (fun W => l11Transform_own (rsN s a s.length) W (by rw [rsN_len]; exact hn))
  rw [rsN_len] at HTF
  have HOB := Lib.hid (rstOk_b h)
  have HRY := Lib.hid (rstR_yes (s := s) (a := a))
  have HRNo := Lib.hid (rstR_no (s := s) (k := (a : Int)))
  have HB : Hid (rstB s a = decide (lastL (rsN s a s.length) = s ∧ at0 (trn (rsN s a s.length)) s.length = a)) := rfl
  have hL := at0_le (trn (rsN s a s.length)) s.length
  have HI := Lib.hid (fun W => l1In_any (a : Int) 0 ((s.length : Int) - 1) W)
  have HIY : Hid (a < s.length → inB (a : Int) 0 ((s.length : Int) - 1) = true) := Lib.hid (fun h => by simp [inB]; omega)
  have HIZ : Hid (s = [] → inB (a : Int) 0 ((s.length : Int) - 1) = false) := Lib.hid (fun h => by subst h; simp [inB]; omega)
  have hem : s = [] → ((str s).toList == (⟨#[]⟩ : ByteArray).toList) = true := fun h => by
    have e0 : (⟨#[]⟩ : ByteArray).toList = [] := str_toList []
    rw [h, str_toList, e0]; rfl
  have HEM := Lib.hid hem
  have hni : ¬ (120 : Int) < (s.length : Int) := by omega
  have hnd : decide ((120 : Int) < (s.length : Int)) = false := decide_eq_false hni
  have hdn : decide (120 < s.length) = false := decide_eq_false (by omega)
  clear h hal hem
  generalize lastL (rsN s a s.length) = L at *
  generalize at0 (trn (rsN s a s.length)) s.length = X at *
  generalize nxtL s = T at *
  generalize hnn : s.length = n at *
  have HNN := Lib.hid hnn
  clear hnn
  have key : ∀ (e : Ending) (w1 : World), True := fun _ _ => trivial
  clear key
  go_enter Try.func21, Try.ntmps21
  go_upto_region 1 with fail
  go_cut [29] from 11 to 29 (fun t wx => t = .bool false ∧ wx = w)
  case first =>
    rcases hin.out with hin | ⟨h0, hs0⟩
    · rw [HIY.out hin] at HI
      go_wp2_with fail
      refine (HI.out _).mono ?_
      rintro e w' ⟨rfl, rfl⟩
      go_wp2_with fail
      go_meet
      exact ⟨rfl, rfl⟩
    · rw [HIZ.out hs0] at HI
      have he := HEM.out hs0
      have he2 : (!((str s).toList == (⟨#[]⟩ : ByteArray).toList)) = false := by rw [he]; rfl
      have he3 : (str s).toList = [] := by rw [hs0]; exact str_toList []
      clear hs0
      subst h0
      go_wp2_with fail
      refine (HI.out _).mono ?_
      rintro e w' ⟨rfl, rfl⟩
      go_wp2_with fail
      go_meet
      exact ⟨rfl, rfl⟩
  case rest =>
  obtain ⟨rfl, rfl⟩ := hcut
  go_wp2_with fail
  refine (HNX.out _).mono ?_
  rintro e w1 ⟨v, rfl, hO, hT⟩
  have HOT := Lib.hid hO
  have HTU := Lib.hid hT
  obtain ⟨A, c, hv⟩ := hO.seen.len
  rw [ints_length, HNL.out] at hv
  subst hv
  have hw1 := hT.size
  have HOW0 : Hid (w1.ownsRow w1.heap.size 5 1 (.slice none 0 0) 0 (bys (rsN s a 0))) := by
    show World.ownsRow _ _ _ _ _ _ _
    rw [HR0.out]; exact World.ownsRow_nil _ _ _ _
  clear hO hT HNX
  go_wp2_with fail
  go_loopw [7, 8, 35] (fun v x y wr => ∃ k : Nat, k ≤ n ∧ y = .int .i64 k ∧ x = .int .i64 (folN s a k : Nat) ∧ Hid (wr.ownsRow w1.heap.size 5 1 v k (bys (rsN s a k))) ∧ Hid (TurnIn 0 0 w1 wr)) (fun _ _ y _ => n - (intOf y).toNat)
  case atStart => exact ⟨0, Nat.zero_le _, rfl, by rw [HF0.out], HOW0, Lib.hid (TurnIn.refl _)⟩
  case round =>
    clear HOW0
    obtain ⟨k, hk, rfl, rfl, HBr, HK⟩ := hrel
    by_cases hlt : k < n
    · have hki : (k : Int) < (n : Int) := by omega
      have hfl := HFL.out (by omega) k
      have hfl2 := HFL.out (by omega) (k + 1)
      have HFS2 := Lib.hid (HFS.out k)
      have HRS2 := Lib.hid (HRS.out k)
      have HOT3 := HOT.out.keep HK.out (by omega)
      obtain ⟨A', c', e, _, _, h3⟩ := HOT3.seen
      rw [ints_length, HNL.out] at e h3
      simp only [Value.slice.injEq] at e
      obtain ⟨rfl, he, rfl⟩ := e
      clear he
      obtain ⟨b, o, rfl, hbb, hcc⟩ := h3 (by omega)
      have c1 : wr.cell? ⟨b, o + folN s a k, none⟩ = some (.int .i64 ((folN s a (k + 1) : Nat) : Int)) := by
        rw [HFS2.out]
        refine hcc (folN s a k) _ ?_
        simp only [ints, List.getElem?_map, HNG.out (folN s a k) hfl, Option.map_some]
      have hqs : folN s a (k + 1) < (str s).size := by rw [hsz]; exact hfl2
      have g1 := HSG.out (folN s a (k + 1)) hqs
      generalize hqq : folN s a (k + 1) = q at *
      have HQ := Lib.hid hqq
      clear hqq
      generalize folN s a k = p at *
      generalize s.getD q 0 = y at *
      have HO2 := Lib.hid (HBr.out.alloc (.cells #[.int .u8 (y.toNat : Int)] 5))
      have KA := Lib.hid (turn_trans HK.out (turn_alloc wr (.cells #[.int .u8 (y.toNat : Int)] 5)) (by omega))
      have hwr := HK.out.size
      clear HBr HOT3 h3 hcc HFS2
      go_wp2_with (at_builtin; refine wpList_append1 rfl _ _ _ rfl w1.heap.size 5 _ _ Try.underlying22 infoByte rfl _ k _ rfl HO2.out wr.heap.size (.int .u8 (y.toNat : Int)) rfl ?c1 rfl ?c2 ?c3 ?c4 ?_)
      case c1 => simp
      case c2 => omega
      case c3 => omega
      case c4 => simp; omega
      intro v' w3 hown3 hg3 _
      have K3 := Lib.hid (growT KA.out hg3 (fun g e => (HO2.out.lt g e).1))
      have HO3 : Hid (w3.ownsRow w1.heap.size 5 1 v' (k + 1) (bys (rsN s a (k + 1)))) := by
        show World.ownsRow _ _ _ _ _ _ _
        rw [HRS2.out, bys_append]; exact hown3
      clear hown3 hg3 HO2 KA HRS2
      go_wp2_with fail
      go_roundw
      case rel => exact ⟨k + 1, by omega, by go_num, by rw [HQ.out], HO3, K3⟩
      case measure => simp [intOf]; omega
    · obtain rfl : k = n := by omega
      have hki : ¬ (k : Int) < (k : Int) := by omega
      have hseen := Seen.of_own HBr.out
      obtain ⟨A4, c4, h4⟩ := hseen.len
      rw [bys_length, HRN.out] at h4
      subst h4
      have hconv := run_string_seen (P := Try.prog) 22 5 9 Try.underlying22 Try.underlying5 Try.underlying9 hseen
      have HTF2 := Lib.hid (turn_trans HTU.out HK.out (by omega))
      have HSE := Lib.hid hseen
      clear HBr hseen
      go_wp2_with fail
      refine (HTF.out _).mono ?_
      rintro e w5 ⟨rfl, k5⟩
      have HFin := Lib.hid (turn_trans HTF2.out k5 (by omega))
      have hconv2 := run_string_seen (P := Try.prog) 22 5 9 Try.underlying22 Try.underlying5 Try.underlying9 (HSE.out.touch k5)
      clear k5 hconv
      by_cases hL1 : L = s
      · have hLb : ((str L).toList == (str s).toList) = true := by rw [hL1]; simp
        have hLn : (!((str L).toList == (str s).toList)) = false := by rw [hLb]; rfl
        by_cases hX1 : X = a
        · have hXb : ((X : Int) != (a : Int)) = false := by rw [hX1]; simp
          have hok : rstOk s (a : Int) = true := by rw [HOB.out, HB.out]; simp [hL1, hX1]
          have HRY2 := Lib.hid (HRY.out hok)
          have HOK := Lib.hid hok
          clear hL1 hX1 hok
          go_wp2_with fail
          go_ret2
          exact ⟨by rw [HRY2.out, HOK.out]; rfl, HFin.out⟩
        · have hXb : ((X : Int) != (a : Int)) = true := by rw [bne_iff_ne]; omega
          have hok : rstOk s (a : Int) = false := by rw [HOB.out, HB.out]; simp [hX1]
          have HRY2 := Lib.hid (HRNo.out hok)
          have HOK := Lib.hid hok
          clear hL1 hX1 hok
          go_wp2_with fail
          go_ret2
          exact ⟨by rw [HRY2.out, HOK.out]; rfl, HFin.out⟩
      · have hLb : ((str L).toList == (str s).toList) = false := by rw [str_toList, str_toList]; simpa using hL1
        have hLn : (!((str L).toList == (str s).toList)) = true := by rw [hLb]; rfl
        have hok : rstOk s (a : Int) = false := by rw [HOB.out, HB.out]; simp [hL1]
        have HRY2 := Lib.hid (HRNo.out hok)
        have HOK := Lib.hid hok
        clear hL1 hok
        go_wp2_with fail
        go_ret2
        exact ⟨by rw [HRY2.out, HOK.out]; rfl, HFin.out⟩

set_option maxRecDepth 100000 in
set_option maxHeartbeats 2000000 in
theorem sRestore_own (s : List UInt8) (k : Int) (w : World) (hs : s.length ≤ 1000000000000) : Calls Try.prog 21 #[.string (str s), .int .i64 k] w (RetStrOk w (rstR s k) (rstOk s k)) := by
  by_cases h : rtOk s k = true
  · obtain ⟨hn, a, rfl, ha, hal⟩ := rtOk_b h
    exact sRestore_go s a w h (Lib.hid hal)
  · have HO : Hid (rtOk s k = false) := by show rtOk s k = false; simpa using h
    have HOK := Lib.hid (rstOk_a HO.out)
    have HR := Lib.hid (rstR_no HOK.out)
    rw [HR.out, HOK.out]
    have hsz : (str s).size = s.length := str_size s
    have HI := Lib.hid (fun W => l1In_any k 0 ((s.length : Int) - 1) W)
    by_cases hn : s.length ≤ 120
    · have hni : ¬ (120 : Int) < (s.length : Int) := by omega
      have hk : ¬ (0 ≤ k ∧ k ≤ (s.length : Int) - 1) := fun hk => h (by simp [rtOk, trnOk, hn]; omega)
      have HIN : Hid (inB k 0 ((s.length : Int) - 1) = false) := by
        show _ = _
        rw [Bool.eq_false_iff]; intro e
        simp only [inB, decide_eq_true_eq] at e
        exact hk e
      rw [HIN.out] at HI
      by_cases hz : k = 0
      · exfalso
        apply h
        subst hz
        simp [rtOk, trnOk, hn]; omega
      · have hzb : (k != 0) = true := by simpa using hz
        clear h hk hz
        generalize s.length = n at *
        go_enter Try.func21, Try.ntmps21
        go_wp2_with fail
        refine (HI.out _).mono ?_
        rintro e w' ⟨rfl, rfl⟩
        go_wp2_with fail
        go_ret2
        exact ⟨rfl, TurnIn.refl _⟩
    · have hni : (120 : Int) < (s.length : Int) := by omega
      clear h
      generalize s.length = n at *
      go_enter Try.func21, Try.ntmps21
      go_wp2_with fail
      go_ret2
      exact ⟨rfl, TurnIn.refl _⟩
end Go.Proofs.Ytbfchebnooanjaa
