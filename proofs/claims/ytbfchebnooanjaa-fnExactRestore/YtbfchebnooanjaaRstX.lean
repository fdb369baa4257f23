/- Chapter 11: Restore, the program's. -/
import Derived.Test.YtbfchebnooanjaaNxtI
import Derived.Test.YtbfchebnooanjaaTrfX
set_option linter.unusedSimpArgs false
set_option linter.unusedVariables false
namespace G294
open Go Go.RowKit
/-- the index after k steps -/
def folN (s : List UInt8) (a : Nat) : Nat → Nat
  | 0 => a
  | k + 1 => (nxtL s).getD (folN s a k) 0
theorem folN_succ (s : List UInt8) (a k : Nat) : folN s a (k + 1) = (nxtL s).getD (folN s a k) 0 := rfl
theorem posN_mem {s : List UInt8} {i b x : Nat} : x ∈ posN s i b ↔ x < i ∧ byN s x = b := by
  simp [posN, List.mem_filter]
theorem nxtL_mem {s : List UInt8} {x : Nat} : x ∈ nxtL s ↔ x < s.length := by
  simp only [nxtL, List.mem_flatMap, List.mem_range, posN_mem]
  constructor
  · rintro ⟨_, _, h, _⟩; exact h
  · intro h; exact ⟨byN s x, byN_lt s x, h, rfl⟩
theorem nxtL_lt {s : List UInt8} {k : Nat} (h : k < s.length) : (nxtL s).getD k 0 < s.length := by
  rw [getD_len (by rw [nxtL_len]; exact h)]
  exact nxtL_mem.1 (List.getElem_mem _)
theorem folN_lt {s : List UInt8} {a : Nat} (h : a < s.length) : ∀ k, folN s a k < s.length
  | 0 => h
  | k + 1 => nxtL_lt (folN_lt h k)
/-- the first k bytes that are read so -/
def rsN (s : List UInt8) (a k : Nat) : List UInt8 := (List.range k).map fun j => s.getD (folN s a (j + 1)) 0
theorem rsN_len (s : List UInt8) (a k : Nat) : (rsN s a k).length = k := by simp [rsN]
theorem rsN_succ (s : List UInt8) (a k : Nat) : rsN s a (k + 1) = rsN s a k ++ [s.getD (folN s a (k + 1)) 0] := by simp [rsN, List.range_succ]
def rstB (s : List UInt8) (a : Nat) : Bool := decide (lastL (rsN s a s.length) = s ∧ at0 (trn (rsN s a s.length)) s.length = a)
def rstOk (s : List UInt8) (k : Int) : Bool := rtOk s k && rstB s k.toNat
def rstR (s : List UInt8) (k : Int) : List UInt8 := if rstOk s k = true then rsN s k.toNat s.length else []
theorem rstR_no {s : List UInt8} {k : Int} (h : rstOk s k = false) : rstR s k = [] := if_neg (by rw [h]; decide)
theorem rstR_yes {s : List UInt8} {a : Nat} (h : rstOk s a = true) : rstR s a = rsN s a s.length := by unfold rstR; rw [if_pos h]; simp
theorem rstOk_a {s : List UInt8} {k : Int} (h : rtOk s k = false) : rstOk s k = false := by simp [rstOk, h]
theorem rstOk_b {s : List UInt8} {a : Nat} (h : rtOk s a = true) : rstOk s a = rstB s a := by simp [rstOk, h]
theorem rsN_trf {s : List UInt8} (a : Nat) (h : s.length ≤ 120) : trnOk (rsN s a s.length) = true ∧ trfR (rsN s a s.length) = lastL (rsN s a s.length) ∧ trfX (rsN s a s.length) = (at0 (trn (rsN s a s.length)) s.length : Nat) := by
  have h1 : trnOk (rsN s a s.length) = true := by simpa [trnOk, rsN_len] using h
  exact ⟨h1, trfR_yes h1, by rw [trfX_yes h1, rsN_len]⟩
end G294
namespace Go.Proofs.Ytbfchebnooanjaa
open Go.RowKit G294

set_option maxRecDepth 100000 in
set_option maxHeartbeats 4000000 in
theorem restore_own (s : List UInt8) (k : Int) (w : World) (hs : s.length ≤ 1000000000000) : Calls Try.prog 16 #[.string (str s), .int .i64 k] w (RetStrOk w (rstR s k) (rstOk s k)) := by
  obtain ⟨i0, hi0, hz0, hz1, hz2⟩ := info_parts infoByte
  have hsz : (str s).size = s.length := str_size s
  have HNX := Lib.hid (nextOf_own s w hs)
  have HGT := Lib.hid (fun W => goodTurn_any k s W hs)
  by_cases h : rtOk s k = true
  · obtain ⟨hn, a, rfl, ha, hal⟩ := rtOk_b h
    have HO1 : Hid (trnOk s = true) := by show _ = _; simp [trnOk, hn]
    have HO2 : Hid ((decide (0 ≤ (a : Int)) && decide ((a : Int) < max (s.length : Int) 1)) = true) := by
      simp only [rtOk, Bool.and_eq_true] at h
      show _ = _
      simp only [Bool.and_eq_true]; exact h.2
    have HNR := Lib.hid (nxtR_yes HO1.out)
    have HNL : Hid ((natI (nxtL s)).length = s.length) := by show _ = _; rw [natI_len, nxtL_len]
    have HNG : Hid (∀ k, k < s.length → (natI (nxtL s))[k]? = some (((nxtL s).getD k 0 : Nat) : Int)) := fun k hk => natI_get (nxtL s) k (by rw [nxtL_len]; exact hk)
    have HFS := Lib.hid (folN_succ s a)
    have HFL : Hid (0 < s.length → ∀ k, folN s a k < s.length) := fun h k => folN_lt (by omega) k
    have HRN := Lib.hid (rsN_len s a)
    have HRS := Lib.hid (rsN_succ s a)
    have HR0 : Hid (rsN s a 0 = []) := rfl
    have HF0 : Hid (folN s a 0 = a) := rfl
    have HSG := Lib.hid (fun k h => str_get s k h)
    obtain ⟨hq1, hq2, hq3⟩ := rsN_trf a hn
    have HTF := Lib.hid (fun W => transform_own (rsN s a s.length) W (by rw [rsN_len]; omega))
    rw [hq1, hq2, hq3] at HTF
    have HOB := Lib.hid (rstOk_b h)
    have HRY := Lib.hid (rstR_yes (s := s) (a := a))
    have HRNo := Lib.hid (rstR_no (s := s) (k := (a : Int)))
    have HB : Hid (rstB s a = decide (lastL (rsN s a s.length) = s ∧ at0 (trn (rsN s a s.length)) s.length = a)) := rfl
    have hL := at0_le (trn (rsN s a s.length)) s.length
    rw [HO2.out] at HGT
    rw [HO1.out, HNR.out] at HNX
    clear h hal hq1 hq2 hq3
    generalize lastL (rsN s a s.length) = L at *
    generalize at0 (trn (rsN s a s.length)) s.length = X at *
    generalize nxtL s = T at *
    generalize hnn : s.length = n at *
    clear hnn
    go_enter Try.func16, Try.ntmps16
    go_wp2_with fail
    refine HNX.out.mono ?_
    rintro e w1 ⟨v, rfl, hO, hT⟩
    have HOT := Lib.hid hO
    have HTU := Lib.hid hT
    obtain ⟨A, c, hv⟩ := hO.seen.len
    rw [ints_length, HNL.out] at hv
    subst hv
    clear hO hT HNX
    go_wp2_with fail
    refine (HGT.out _).mono ?_
    rintro e w' ⟨rfl, rfl⟩
    go_wp2_with (at_make; refine wpList_make_full _ rfl _ _ _ rfl w1.heap.size _ i0 _ 1 Try.underlying22 hi0 hz0 hz1 _ _ _ _ n rfl rfl rfl rfl ?b2 ?b3 ?b4 ?_)
    case b2 => rw [hz2]; omega
    case b3 => unfold maxLen; omega
    case b4 => exact Nat.le_refl _
    intro w2 hown1 hg1
    have hb1 : TurnIn 0 0 w1 w2 := TurnIn.of_grown (lo := 0) (hi := 0) hg1 (fun g h => by simp at h)
    rw [toList_madeCells_one] at hown1
    have hBlt := (hown1.lt w1.heap.size rfl).2
    have HB0 : Hid (OwnBytes 5 w2 w1.heap.size (w1.heap.size + 1) (.slice (some ⟨w1.heap.size, 0, none⟩) n n) (rsN s a 0 ++ List.replicate (n - 0) 0)) := by
      refine ⟨?_, by omega, fun g hg => ?_⟩
      · have e : bys (rsN s a 0 ++ List.replicate (n - 0) 0) = List.replicate n (.int .u8 0) := by rw [HR0.out]; simp [bys]
        rw [e, HR0.out]
        simpa using hown1
      · have e : w1.heap.size = g := by simpa [Value.ownBlock] using hg
        omega
    have HOT2 := Lib.hid (HOT.out.keep hb1 (by omega))
    have HTU2 := Lib.hid (turn_trans HTU.out hb1 (by omega))
    have hw1 := HTU.out.size
    clear hg1 hown1 HOT HTU hb1
    generalize w1.heap.size = B at *
    go_wp2_with fail
    go_loopw [9, 33] (fun x y wr => ∃ k : Nat, k ≤ n ∧ y = .int .i64 k ∧ x = .int .i64 (folN s a k : Nat) ∧ Hid (OwnBytes 5 wr B (B + 1) (.slice (some ⟨B, 0, none⟩) n n) (rsN s a k ++ List.replicate (n - k) 0)) ∧ Hid (TurnIn B (B + 1) w2 wr)) (fun _ y _ => n - (intOf y).toNat)
    case atStart => exact ⟨0, Nat.zero_le _, rfl, by rw [HF0.out], HB0, Lib.hid ⟨rfl, rfl, rfl, Nat.le_refl _, fun _ _ _ => rfl⟩⟩
    case round =>
      clear HB0
      obtain ⟨k, hk, rfl, rfl, HBr, HK⟩ := hrel
      by_cases hlt : k < n
      · have hki : (k : Int) < (n : Int) := by omega
        have hfl := HFL.out (by omega) k
        have hfl2 := HFL.out (by omega) (k + 1)
        have HFS2 := Lib.hid (HFS.out k)
        have HRS2 := Lib.hid (HRS.out k)
        have HLK := Lib.hid (HRN.out k)
        have HOT3 := HOT2.out.keep HK.out (by omega)
        obtain ⟨A', c', e, _, _, h3⟩ := HOT3.seen
        rw [ints_length, HNL.out] at e h3
        simp only [Value.slice.injEq] at e
        obtain ⟨rfl, he, rfl⟩ := e
        clear he
        obtain ⟨b, o, rfl, hbb, hcc⟩ := h3 (by omega)
        have c1 : wr.cell? ⟨b, o + folN s a k, none⟩ = some (.int .i64 ((folN s a (k + 1) : Nat) : Int)) := by
          rw [HFS2.out]
          refine hcc (folN s a k) _ ?_
          simp only [ints, List.getElem?_map, HNG.out (folN s a k) hfl, Option.map_some]
        have hqs : folN s a (k + 1) < (str s).size := by rw [hsz]; exact hfl2
        have g1 := HSG.out (folN s a (k + 1)) hqs
        generalize hqq : folN s a (k + 1) = q at *
        have HQ := Lib.hid hqq
        clear hqq
        generalize folN s a k = p at *
        generalize s.getD q 0 = y at *
        have hOn := HBr.out.1
        rw [List.length_append, HLK.out, List.length_replicate, show k + (n - k) = n by omega] at hOn
        have hcb := hOn.cellAt k (by omega)
        have hfz := hOn.frozenAt k
        rw [show (bys (rsN s a k ++ List.replicate (n - k) 0))[k]? = some (.int .u8 0) by
          simp only [bys, List.getElem?_map, fill_at HLK.out hlt]; rfl] at hcb
        have HST := Lib.hid (HBr.out.store (q := k) (x := y) (by rw [List.length_append, HLK.out, List.length_replicate]; omega) (fill_set y HLK.out hlt))
        rw [← HRS2.out] at HST
        have HKS := Lib.hid (turn_trans HK.out (turn_setR wr B k (.int .u8 (y.toNat : Int))) (by omega))
        clear HBr HK HOT3 h3 hcc HRS2 hOn HFS2
        go_wp2_with fail
        go_roundw
        case rel => exact ⟨k + 1, by omega, by go_num, by rw [HQ.out], HST, HKS⟩
        case measure => simp [intOf]; omega
      · obtain rfl : k = n := by omega
        have hki : ¬ (k : Int) < (k : Int) := by omega
        have hseen : Seen wr (.slice (some ⟨B, 0, none⟩) k k) (bys (rsN s a k)) := by
          have := HBr.out.seen
          rw [Nat.sub_self, List.replicate_zero, List.append_nil] at this
          exact this
        have hconv := run_string_seen (P := Try.prog) 22 5 9 Try.underlying22 Try.underlying5 Try.underlying9 hseen
        have HTF2 := Lib.hid (turn_trans HTU2.out HK.out (by omega))
        have HBK := HBr
        have hwb := HBr.out.2.1
        have HSE := Lib.hid hseen
        clear HBr hseen
        go_wp2_with fail
        refine (HTF.out _).mono ?_
        rintro e w5 ⟨rfl, k5⟩
        have HFin := Lib.hid (turn_trans HTF2.out k5 (by omega))
        have hconv2 := run_string_seen (P := Try.prog) 22 5 9 Try.underlying22 Try.underlying5 Try.underlying9 (HSE.out.touch k5)
        clear k5 hconv
        by_cases hL1 : L = s
        · have hLb : ((str L).toList == (str s).toList) = true := by rw [hL1]; simp
          have hLn : (!((str L).toList == (str s).toList)) = false := by rw [hLb]; rfl
          by_cases hX1 : X = a
          · have hXb : ((X : Int) != (a : Int)) = false := by rw [hX1]; simp
            have hok : rstOk s (a : Int) = true := by rw [HOB.out, HB.out]; simp [hL1, hX1]
            have HRY2 := Lib.hid (HRY.out hok)
            have HOK := Lib.hid hok
            clear hL1 hX1 hok
            go_wp2_with fail
            go_ret2
            exact ⟨by rw [HRY2.out, HOK.out]; rfl, HFin.out⟩
          · have hXb : ((X : Int) != (a : Int)) = true := by rw [bne_iff_ne]; omega
            have hok : rstOk s (a : Int) = false := by rw [HOB.out, HB.out]; simp [hX1]
            have HRY2 := Lib.hid (HRNo.out hok)
            have HOK := Lib.hid hok
            clear hL1 hX1 hok
            go_wp2_with fail
            go_ret2
            exact ⟨by rw [HRY2.out, HOK.out]; rfl, HFin.out⟩
        · have hLb : ((str L).toList == (str s).toList) = false := by rw [str_toList, str_toList]; simpa using hL1
          have hLn : (!((str L).toList == (str s).toList)) = true := by rw [hLb]; rfl
          have hok : rstOk s (a : Int) = false := by rw [HOB.out, HB.out]; simp [hL1]
          have HRY2 := Lib.hid (HRNo.out hok)
          have HOK := Lib.hid hok
          clear hL1 hok
          go_wp2_with fail
          go_ret2
          exact ⟨by rw [HRY2.out, HOK.out]; rfl, HFin.out⟩
  · have HO : Hid (rtOk s k = false) := by show rtOk s k = false; simpa using h
    have HOK := Lib.hid (rstOk_a HO.out)
    have HR := Lib.hid (rstR_no HOK.out)
    rw [HR.out, HOK.out]
    by_cases h1 : trnOk s = true
    · have HO2 : Hid ((decide (0 ≤ k) && decide (k < max (s.length : Int) 1)) = false) := by
        have := HO.out
        simp only [rtOk, h1, Bool.true_and] at this
        exact this
      have hn : s.length ≤ 120 := by simpa [trnOk] using h1
      have HNL : Hid ((nxtR s).length = s.length) := by show _ = _; rw [nxtR_yes h1, natI_len, nxtL_len]
      rw [h1] at HNX
      rw [HO2.out] at HGT
      clear h h1
      generalize nxtR s = T at *
      go_enter Try.func16, Try.ntmps16
      go_wp2_with fail
      refine HNX.out.mono ?_
      rintro e w1 ⟨v, rfl, hO, hT⟩
      have HTU := Lib.hid hT
      clear hO hT HNX
      go_wp2_with fail
      refine (HGT.out _).mono ?_
      rintro e w' ⟨rfl, rfl⟩
      go_wp2_with fail
      go_ret2
      exact ⟨rfl, HTU.out⟩
    · rw [show trnOk s = false by simpa using h1] at HNX
      clear h h1
      generalize nxtR s = T at *
      go_enter Try.func16, Try.ntmps16
      go_wp2_with fail
      refine HNX.out.mono ?_
      rintro e w1 ⟨v, rfl, hO, hT⟩
      have HTU := Lib.hid hT
      clear hO hT HNX
      go_wp2_with fail
      go_ret2
      exact ⟨rfl, HTU.out⟩
end Go.Proofs.Ytbfchebnooanjaa
