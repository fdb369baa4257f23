/- Chapter 8: the model's syndromes, IsWord, DataOf. -/
import Derived.Test.YtfglkgeeelapgaaDoorErrW4
import Derived.Test.YtfglkgeeelapgaaDoorSpecOwn
set_option linter.unusedSimpArgs false
set_option linter.unusedVariables false
namespace G294
open Go Go.RowKit
theorem zeroL_yes {l : List UInt8} (h : ∀ i, i < l.length → l.getD i 0 = 0) : zeroL l = true := by simpa only [zeroL, decide_eq_true_eq] using h
theorem zeroL_no {l : List UInt8} {k : Nat} (hk : k < l.length) (h : l.getD k 0 ≠ 0) : zeroL l = false := by
  rw [Bool.eq_false_iff]; intro e
  simp only [zeroL, decide_eq_true_eq] at e
  exact h (e k hk)
theorem isWR_fit {w : List UInt8} {t : Int} (h : isWR w t = true) : fitW w t = true := by
  simp only [isWR, Bool.and_eq_true] at h; exact h.1
theorem fitW_m {w : List UInt8} {t : Int} (h : fitW w t = true) : ∃ m : Nat, t = m ∧ 1 ≤ m ∧ m ≤ 4 ∧ 2 * m + 1 ≤ w.length ∧ w.length ≤ 24 ∧ errT t = true := by
  simp only [fitW, errT, Bool.and_eq_true, decide_eq_true_eq] at h
  refine ⟨t.toNat, by omega, by omega, by omega, by omega, by omega, ?_⟩
  simp only [errT, decide_eq_true_eq]; omega
/-- a part of a slice from n on -/
theorem Seen.dropB {w : World} {A : Option Addr} {c : Nat} {l : List UInt8} (h : Seen w (.slice A l.length c) (bys l)) {n : Nat} (hn : n < l.length) : ∃ b off, A = some ⟨b, off, none⟩ ∧ Seen w (.slice (some ⟨b, off + n, none⟩) (l.length - n) (c - n)) (bys (l.drop n)) := by
  obtain ⟨A', c', hv, hlc, hcm, hx⟩ := h
  simp only [Value.slice.injEq, bys_length] at hv hlc hx
  obtain ⟨rfl, _, rfl⟩ := hv
  obtain ⟨b, off, rfl, hb, hc⟩ := hx (by omega)
  refine ⟨b, off, rfl, _, c - n, by simp, by simp; omega, by omega, fun _ => ⟨b, off + n, rfl, hb, fun i u hu => ?_⟩⟩
  rw [Nat.add_assoc]
  refine hc (n + i) u ?_
  rw [← hu]
  simp [bys, List.getElem?_drop]
end G294
namespace Go.Proofs.YtfglkgeeelapgaaDoor
open Go.RowKit G294

set_option maxHeartbeats 1000000 in
theorem l8Fits_any (A : Option Addr) (l : List UInt8) (c : Nat) (t : Int) (w : World) (hl : l.length ≤ 9223372036854775807) : Calls Tryd.prog 94 #[.slice A l.length c, .int .i64 t] w fun e w' => e = .returned (.bool (fitW l t)) ∧ w = w' := by
  by_cases he : errT t = true
  · obtain ⟨m, rfl, h1, h4⟩ := errT_b he
    obtain ⟨n, hn⟩ : ∃ n, n = 2 * m := ⟨_, rfl⟩
    have hm2 : 2 * (m : Int) = (n : Int) := by omega
    have hn8 : n ≤ 8 := by omega
    have HE := Lib.hid he
    have HF : Hid (fitW l (m : Int) = inB l.length ((n : Int) + 1) 24) := by
      show _ = _
      rw [fitW_b h1 h4, inB, decide_eq_decide]; omega
    clear he hn
    rw [HF.out]
    generalize hll : l.length = q at *
    clear hll HF
    have HIN := Lib.hid (l1In_any (q : Int) ((n : Int) + 1) 24)
    generalize inB (q : Int) ((n : Int) + 1) 24 = z at *
    go_enter Tryd.func94, Tryd.ntmps94
    go_wp2_with fail
    refine (l8T_any _ _).mono ?_
    rintro e w' ⟨rfl, rfl⟩
    rw [HE.out]
    go_wp2_with fail
    refine (HIN.out _).mono ?_
    rintro e w' ⟨rfl, rfl⟩
    go_wp2_with fail
    go_ret
    exact ⟨rfl, rfl⟩
  · have HE : Hid (errT t = false) := by show _ = _; simpa using he
    have HF : Hid (fitW l t = false) := fitW_no HE.out
    clear he
    rw [HF.out]
    generalize hll : l.length = q at *
    clear hll
    go_enter Tryd.func94, Tryd.ntmps94
    go_wp2_with fail
    refine (l8T_any _ _).mono ?_
    rintro e w' ⟨rfl, rfl⟩
    rw [HE.out]
    go_wp2_with fail
    go_ret
    exact ⟨rfl, rfl⟩

set_option maxRecDepth 100000 in
set_option maxHeartbeats 4000000 in
theorem l8Syndromes_own (v : Value) (l : List UInt8) (m : Nat) (w : World) (hv : Seen w v (bys l)) (h1 : 1 ≤ m) (h4 : m ≤ 4) : Calls Tryd.prog 95 #[v, .int .i64 (m : Int)] w (RetBytes 5 w (synL l (2 * m))) := by
  obtain ⟨A, c, hvv⟩ := hv.len
  subst hvv
  obtain ⟨n, hn⟩ : ∃ n, n = 2 * m := ⟨_, rfl⟩
  have hm2 : 2 * (m : Int) = (n : Int) := by omega
  have hn8 : n ≤ 8 := by omega
  rw [← hn]
  clear hn
  have HV := Lib.hid hv
  clear hv
  have HML : Hid (∀ k (F : Nat → UInt8), (mkRow k F).length = k) := fun k F => by simp
  have HSY : Hid (∀ k, synL l k = mkRow k fun p => hor (powB 3 (p + 1)) l) := fun k => rfl
  generalize hll : (bys l).length = q at *
  clear hll
  go_enter Tryd.func95, Tryd.ntmps95
  go_wp2_with fail
  go_loopw [5, 6] (fun o i wr => ∃ k : Nat, k ≤ n ∧ i = .int .i64 ((k : Int) + 1) ∧ OwnBytes 5 wr w.heap.size wr.heap.size o (mkRow k fun p => hor (powB 3 (p + 1)) l) ∧ Below w.heap.size w wr)
    (fun _ i _ => n + 1 - (intOf i).toNat)
  case atStart => exact ⟨0, Nat.zero_le _, rfl, OwnBytes.nil _ _ _, Below.refl _ _⟩
  case round =>
    obtain ⟨k, hk, rfl, ho, hb⟩ := hrel
    by_cases hlt : k < n
    · have hki : (k : Int) + 1 ≤ (n : Int) := by omega
      have HP : Hid (Calls Tryd.prog 52 #[.int .u8 3, .int .i64 ((k : Int) + 1)] wr fun e w' => e = .returned (.int .u8 ((powB 3 (k + 1)).toNat : Int)) ∧ wr = w') := l1Pow3 (k + 1) wr (by omega)
      have HAT := Lib.hid (l7At_own _ l (powB 3 (k + 1)) wr (HV.out.below hb))
      have HO := Lib.hid ho
      have hsz := hb.size
      clear ho
      go_wp2_with fail
      refine HP.out.mono ?_
      rintro e w' ⟨rfl, rfl⟩
      go_wp2_with fail
      refine HAT.out.mono ?_
      rintro e w5 ⟨rfl, k5⟩
      have z5 := k5.size
      have ho5 := (HO.out.keep k5 (by omega)).1
      rw [HML.out] at ho5
      have hb5 := k5.base hb hsz (by omega)
      have HO5 := Lib.hid (ho5.alloc (.cells #[.int .u8 ((hor (powB 3 (k + 1)) l).toNat : Int)] 5))
      have HB5 : Hid (Below w.heap.size w (w5.alloc (.cells #[.int .u8 ((hor (powB 3 (k + 1)) l).toNat : Int)] 5))) := hb5.alloc (by omega) _
      clear ho5 HO
      go_wp2_with (at_builtin; refine wpList_append1 rfl _ _ _ rfl w.heap.size 5 _ _ Tryd.underlying22 infoByte rfl _ k _ rfl HO5.out w5.heap.size (.int .u8 ((hor (powB 3 (k + 1)) l).toNat : Int)) rfl ?c1 rfl ?c2 ?c3 ?c4 ?_)
      case c1 => simp
      case c2 => omega
      case c3 => omega
      case c4 => simp; omega
      intro v' w' hown' hg' _
      have hb' : Below w.heap.size w w' := below_append HB5.out HO5.out hg' (Nat.le_refl _) (by simp; omega)
      have hown2 : OwnBytes 5 w' w.heap.size w'.heap.size v' (mkRow (k + 1) fun p => hor (powB 3 (p + 1)) l) := by
        refine ⟨?_, Nat.le_refl _, fun g e => (hown'.lt g e).2⟩
        rw [HML.out, mkRow_succ, bys_append]; exact hown'
      clear hown' hg'
      go_wp2_with fail
      go_roundw
      case rel => exact ⟨k + 1, by omega, by go_num, hown2, hb'⟩
      case measure => simp [intOf]; omega
    · obtain rfl : k = n := by omega
      have hki : ¬ (k : Int) + 1 ≤ (k : Int) := by omega
      go_wp2_with fail
      go_ret
      exact ⟨_, rfl, by rw [HSY.out]; exact ho, TurnIn.of_below hb⟩

set_option maxHeartbeats 1000000 in
theorem l8Zero_any (v : Value) (l : List UInt8) (w : World) (hv : Seen w v (bys l)) : Calls Tryd.prog 97 #[v] w fun e w' => e = .returned (.bool (zeroL l)) ∧ w = w' := by
  obtain ⟨A, c, rfl, hlc, hcm, hx⟩ := hv
  rw [bys_length] at hlc hx
  simp only [bys_length]
  unfold maxLen at hcm
  generalize hnn : l.length = n at *
  have HN := Lib.hid hnn
  clear hnn
  go_enter Tryd.func97, Tryd.ntmps97
  go_wp2_with fail
  go_loop [7] (fun i => ∃ k : Nat, k ≤ n ∧ i = .int .i64 k ∧ Hid (∀ i, i < k → l.getD i 0 = 0)) (fun i => n - (intOf i).toNat)
  case atStart => exact ⟨0, Nat.zero_le _, rfl, fun i hi => by omega⟩
  case round =>
    obtain ⟨k, hk, rfl, HE⟩ := hrel
    by_cases hlt : k < n
    · obtain ⟨b, off, rfl, hbl, hcell⟩ := hx (by omega)
      have hkl : k < l.length := by rw [HN.out]; exact hlt
      have hcx : w.cell? ⟨b, off + k, none⟩ = some (.int .u8 ((l.getD k 0).toNat : Int)) := by
        have := hcell k _ (bys_get l k hkl)
        simpa [List.getD, hkl] using this
      have hki : (k : Int) < (n : Int) := by omega
      clear hcell hx
      by_cases hz : l.getD k 0 = 0
      · have hbb : (((l.getD k 0).toNat : Int) != 0) = false := by rw [hz]; rfl
        have HK : Hid (∀ i, i < k + 1 → l.getD i 0 = 0) := fun i hi => by
          rcases Nat.lt_or_ge i k with h | h
          · exact HE.out i h
          · rw [show i = k by omega]; exact hz
        clear hz
        generalize l.getD k 0 = x at *
        go_wp2_with fail
        go_round
        case rel => exact ⟨k + 1, by omega, by go_num, HK⟩
        case measure => simp [intOf]; omega
      · have hbb : (((l.getD k 0).toNat : Int) != 0) = true := by
          have : (l.getD k 0).toNat ≠ 0 := fun e => hz (UInt8.toNat_inj.1 e)
          rw [bne_iff_ne]; omega
        have HF : Hid (zeroL l = false) := zeroL_no hkl hz
        clear hz
        generalize l.getD k 0 = x at *
        go_wp2_with fail
        go_ret
        exact ⟨by rw [HF.out]; rfl, rfl⟩
    · obtain rfl : k = n := by omega
      have hki : ¬ (k : Int) < (k : Int) := by omega
      have HF : Hid (zeroL l = true) := zeroL_yes fun i hi => HE.out i (by rw [HN.out] at hi; exact hi)
      go_wp2_with fail
      go_ret
      exact ⟨by rw [HF.out]; rfl, rfl⟩

set_option maxHeartbeats 1000000 in
theorem sSyndromesOf_own (v : Value) (l : List UInt8) (t : Int) (w : World) (hv : Seen w v (bys l)) : Calls Tryd.prog 38 #[v, .int .i64 t] w (RetBytesOk 5 w (synR l t) (fitW l t)) := by
  have hv0 := hv
  obtain ⟨A, c, rfl, hlc, hcm, _⟩ := hv
  rw [bys_length] at hlc hv0
  simp only [bys_length]
  unfold maxLen at hcm
  have HV := Lib.hid hv0
  clear hv0
  have HFI := Lib.hid (fun W => l8Fits_any A l c t W (by omega))
  by_cases hf : fitW l t = true
  · obtain ⟨m, rfl, h1, h4, h5, h6, _⟩ := fitW_m hf
    have HR : Hid (synR l (m : Int) = synL l (2 * m)) := by show _ = _; rw [synR_yes hf]; simp
    have HF := Lib.hid hf
    have HS := Lib.hid (l8Syndromes_own _ l m w HV.out h1 h4)
    clear hf
    generalize hll : l.length = q at *
    clear hll
    go_enter Tryd.func38, Tryd.ntmps38
    go_wp2_with fail
    refine (HFI.out _).mono ?_
    rintro e w' ⟨rfl, rfl⟩
    rw [HF.out]
    go_wp2_with fail
    refine HS.out.mono ?_
    rintro e w1 ⟨v1, rfl, o1, k1⟩
    go_wp2_with fail
    go_ret2
    exact ⟨v1, by rw [HF.out]; rfl, by rw [HR.out]; exact o1, k1⟩
  · have HF : Hid (fitW l t = false) := by show _ = _; simpa using hf
    have HR : Hid (synR l t = []) := synR_no HF.out
    clear hf
    generalize hll : l.length = q at *
    clear hll
    go_enter Tryd.func38, Tryd.ntmps38
    go_wp2_with fail
    refine (HFI.out _).mono ?_
    rintro e w' ⟨rfl, rfl⟩
    rw [HF.out]
    go_wp2_with fail
    go_ret2
    exact ⟨.slice none 0 0, by rw [HF.out]; rfl, by rw [HR.out]; exact OwnBytes.nil _ _ _, TurnIn.refl _⟩

def RetBools (w : World) (a b : Bool) (e : Ending) (w' : World) : Prop := e = .returned (.tuple #[.bool a, .bool b]) ∧ TurnIn 0 0 w w'

set_option maxHeartbeats 1000000 in
theorem sIsWord_own (v : Value) (l : List UInt8) (t : Int) (w : World) (hv : Seen w v (bys l)) : Calls Tryd.prog 40 #[v, .int .i64 t] w (RetBools w (isWR l t) (fitW l t)) := by
  have hv0 := hv
  obtain ⟨A, c, rfl, hlc, hcm, _⟩ := hv
  rw [bys_length] at hlc hv0
  simp only [bys_length]
  unfold maxLen at hcm
  have HV := Lib.hid hv0
  clear hv0
  have HFI := Lib.hid (fun W => l8Fits_any A l c t W (by omega))
  by_cases hf : fitW l t = true
  · obtain ⟨m, rfl, h1, h4, h5, h6, _⟩ := fitW_m hf
    have HR : Hid (isWR l (m : Int) = zeroL (synL l (2 * m))) := by show _ = _; simp [isWR, hf]
    have HF := Lib.hid hf
    have HS := Lib.hid (l8Syndromes_own _ l m w HV.out h1 h4)
    clear hf
    rw [HR.out]
    generalize hll : l.length = q at *
    clear hll
    go_enter Tryd.func40, Tryd.ntmps40
    go_wp2_with fail
    refine (HFI.out _).mono ?_
    rintro e w' ⟨rfl, rfl⟩
    rw [HF.out]
    go_wp2_with fail
    refine HS.out.mono ?_
    rintro e w1 ⟨v1, rfl, o1, k1⟩
    obtain ⟨Y, ny, cy, hyy⟩ := own_isSlice o1.1
    have HZ := Lib.hid (l8Zero_any v1 _ w1 o1.seen)
    subst hyy
    clear o1
    generalize zeroL (synL l (2 * m)) = z at *
    go_wp2_with fail
    refine HZ.out.mono ?_
    rintro e w' ⟨rfl, rfl⟩
    go_wp2_with fail
    go_ret2
    exact ⟨by rw [HF.out]; rfl, k1⟩
  · have HF : Hid (fitW l t = false) := by show _ = _; simpa using hf
    have HR : Hid (isWR l t = false) := by show _ = _; simp [isWR, HF.out]
    clear hf
    generalize hll : l.length = q at *
    clear hll
    go_enter Tryd.func40, Tryd.ntmps40
    go_wp2_with fail
    refine (HFI.out _).mono ?_
    rintro e w' ⟨rfl, rfl⟩
    rw [HF.out]
    go_wp2_with fail
    go_ret2
    exact ⟨by rw [HF.out, HR.out]; rfl, TurnIn.refl _⟩

set_option maxRecDepth 100000 in
set_option maxHeartbeats 2000000 in
theorem sDataOf_own (v : Value) (l : List UInt8) (t : Int) (w : World) (hv : Seen w v (bys l)) : Calls Tryd.prog 42 #[v, .int .i64 t] w (RetBytesOk 5 w (dataR l t) (isWR l t)) := by
  have hv0 := hv
  obtain ⟨A, c, rfl, hlc, hcm, _⟩ := hv
  rw [bys_length] at hlc hv0
  simp only [bys_length]
  unfold maxLen at hcm
  have HV := Lib.hid hv0
  have HIS := Lib.hid (sIsWord_own _ l t w hv0)
  clear hv0
  by_cases hz : isWR l t = true
  · have hf := isWR_fit hz
    obtain ⟨m, rfl, h1, h4, h5, h6, _⟩ := fitW_m hf
    obtain ⟨n, hn⟩ : ∃ n, n = 2 * m := ⟨_, rfl⟩
    have hm2 : 2 * (m : Int) = (n : Int) := by omega
    have hn8 : n ≤ 8 := by omega
    have hnl : n < l.length := by omega
    have HR : Hid (dataR l (m : Int) = l.drop n) := by show _ = _; unfold dataR; rw [if_pos hz, hn]; simp
    have HZ := Lib.hid hz
    have HF := Lib.hid hf
    obtain ⟨b, off, rfl, hsd⟩ := HV.out.dropB (n := n) hnl
    have HD := Lib.hid hsd
    have HDL : Hid ((l.drop n).length = l.length - n) := by show _ = _; simp
    clear hz hf hn hsd
    generalize hll : l.length = q at *
    clear hll
    obtain ⟨d, hd⟩ : ∃ d, d = q - n := ⟨_, rfl⟩
    have hd1 : 1 ≤ d := by omega
    have hdq : q - n = d := hd.symm
    have hcd : c - n = c - n := rfl
    have hni : (n : Int) ≤ (q : Int) := by omega
    have hni2 : (q : Int) ≤ (c : Int) := by omega
    rw [← hd] at HD HDL
    have HQ := Lib.hid hd
    clear hd
    go_enter Tryd.func42, Tryd.ntmps42
    go_wp2_with fail
    refine HIS.out.mono ?_
    rintro e w1 ⟨rfl, k1⟩
    rw [HZ.out, HF.out]
    have hb1 := k1.to_below
    have hsa := (HD.out.touch k1)
    obtain ⟨b', off', c', hvv', hbl', hlm', hcell'⟩ := seen_cellsB hsa (by rw [HDL.out]; exact hd1)
    rw [HDL.out] at hvv'
    simp only [Value.slice.injEq, Option.some.injEq, Addr.mk.injEq, true_and, and_true] at hvv'
    obtain ⟨⟨rfl, rfl⟩, rfl⟩ := hvv'
    have hbA : Below w1.heap.size w1 (w1.alloc (.cells #[] 5)) := (Below.refl _ _).alloc (Nat.le_refl _) _
    obtain ⟨cp, w2, hap, ho, k2⟩ := run_appLit (P := Tryd.prog) (w1.alloc (.cells #[] 5)) 22 22 5 _ _ Tryd.underlying22 infoByte rfl ⟨w1.heap.size, 0, none⟩ ⟨b, off + n, none⟩ d (c - n) (bys (l.drop n)) hd1 (by rw [bys_length, HDL.out]) (hcell' _ hbA) (fun y hy => bys_one y _ hy) (by have := HQ.out; omega) (by omega)
    rw [World.size_alloc] at hap ho
    have z1 := k1.size
    have HO : Hid (OwnBytes 5 w2 w.heap.size w2.heap.size (.slice (some ⟨w1.heap.size + 1, 0, none⟩) d cp) (l.drop n)) := Lib.hid ⟨own_lowerB ho (by omega) HDL.out.symm, Nat.le_refl _, fun g e => (ho.lt g e).2⟩
    have HK := Lib.hid (turn_trans (turn_trans k1 (TurnIn.of_below hbA) (by omega)) k2 (by omega))
    clear hcell' ho k2 hsa hlm' k1 hb1
    go_wp2_with (at_builtin; refine Lib.wpList_append_run _ rfl _ _ _ _ rfl _ _ rfl rfl _ _ hap ?_)
    go_wp2_with fail
    go_ret2
    exact ⟨_, by rw [HZ.out]; rfl, by rw [HR.out]; exact HO.out, HK.out⟩
  · have HZ : Hid (isWR l t = false) := by show _ = _; simpa using hz
    have HR : Hid (dataR l t = []) := if_neg hz
    clear hz
    generalize hll : l.length = q at *
    clear hll
    go_enter Tryd.func42, Tryd.ntmps42
    go_wp2_with fail
    refine HIS.out.mono ?_
    rintro e w1 ⟨rfl, k1⟩
    rw [HZ.out]
    generalize fitW l t = z at *
    go_wp2_with fail
    go_ret2
    exact ⟨.slice none 0 0, by rw [HZ.out]; rfl, by rw [HR.out]; exact ⟨World.ownsRow_nil _ _ _ _, Nat.le_refl _, fun g h => by simp [Value.ownBlock] at h⟩, k1⟩

end Go.Proofs.YtfglkgeeelapgaaDoor
