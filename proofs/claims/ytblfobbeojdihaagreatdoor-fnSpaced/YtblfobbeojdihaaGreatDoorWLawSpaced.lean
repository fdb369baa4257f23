/- The walk of FnSpaced. -/
import Derived.Test.YtblfobbeojdihaaGreatDoorRows
import Derived.Test.YtblfobbeojdihaaGreatDoorBd00
import Derived.Test.YtblfobbeojdihaaGreatDoorBd15
import Derived.Test.YtblfobbeojdihaaGreatDoorBd12
import Derived.StillTailTactics
set_option linter.unusedSimpArgs false
set_option linter.unusedVariables false
namespace G294
open Go Go.RowKit
theorem distN_self (a : List UInt8) : ∀ k, distN a a k = 0
  | 0 => rfl
  | k + 1 => by rw [distN_same rfl, distN_self a k]
theorem enc_ok_len {l l' : List UInt8} {t : Int} (h : encOk8 l t = true) (hl : l'.length = l.length) : encOk8 l' t = true := by
  unfold encOk8 at h ⊢; rw [hl]; exact h
/-- the words of two data of equal length -/
theorem enc_spaced {l l' : List UInt8} {t : Int} (h : encOk8 l t = true) (hl : l'.length = l.length) :
    ∃ (n m : Nat), t = m ∧ 1 ≤ m ∧ m ≤ 4 ∧ n ≤ 24 ∧ distR (encR8 l t) (encR8 l' t) = n ∧ distOk (encR8 l t) (encR8 l' t) = true ∧ (n = 0 ∧ (l == l') = true ∨ 2 * m + 1 ≤ n ∧ (l == l') = false) := by
  have h' := enc_ok_len h hl
  have hx := h
  simp only [encOk8, errT, Bool.and_eq_true, decide_eq_true_eq] at hx
  obtain ⟨m, rfl⟩ : ∃ m : Nat, t = m := ⟨t.toNat, by omega⟩
  have e1 := enc_len h
  have e2 := enc_len h'
  have hlen : (encR8 l (m : Int)).length = (encR8 l' (m : Int)).length := by rw [e1, e2, hl]
  have h24 : (encR8 l (m : Int)).length ≤ 24 := encR8_len _ _
  have r1 : encR8 l (m : Int) = encL8 l (2 * m) := by unfold encR8; rw [if_pos h]; simp
  have r2 : encR8 l' (m : Int) = encL8 l' (2 * m) := by unfold encR8; rw [if_pos h']; simp
  have hok : distOk (encR8 l (m : Int)) (encR8 l' (m : Int)) = true := by simp [distOk, hlen, hlen ▸ h24]
  have hR : distR (encR8 l (m : Int)) (encR8 l' (m : Int)) = (distN (encR8 l (m : Int)) (encR8 l' (m : Int)) (encR8 l (m : Int)).length : Nat) := if_pos hok
  refine ⟨_, m, rfl, by omega, by omega, ?_, hR, hok, ?_⟩
  · exact Nat.le_trans (distN_le _ _ _) h24
  · by_cases e : l = l'
    · subst e; exact .inl ⟨distN_self _ _, by simp⟩
    · refine .inr ⟨?_, by simpa using e⟩
      refine Nat.lt_of_not_le fun hle => e ?_
      have := spaced hlen h24 (n := 2 * m) (fun i hi => by rw [r1]; exact enc_root hi (by omega)) (fun i hi => by rw [r2]; exact enc_root hi (by omega)) hle
      rw [r1, r2] at this
      unfold encL8 at this
      exact (List.append_inj this (by simp)).2
theorem zero_more {f : Nat → UInt8} {k : Nat} (h : true = decide (∀ i, i < k → f i = 0)) (hz : f k = 0) : true = decide (∀ i, i < k + 1 → f i = 0) := by
  have h' : ∀ i, i < k → f i = 0 := by simpa only [decide_eq_true_eq] using h.symm
  symm; rw [decide_eq_true_eq]
  intro i hi
  rcases Nat.lt_or_ge i k with h1 | h1
  · exact h' i h1
  · rw [show i = k by omega]; exact hz
theorem zero_not {f : Nat → UInt8} {k : Nat} (hz : f k ≠ 0) : false = decide (∀ i, i < k + 1 → f i = 0) := by
  symm; rw [decide_eq_false_iff_not]
  exact fun h => hz (h k (by omega))
theorem zero_still {f : Nat → UInt8} {k : Nat} (h : false = decide (∀ i, i < k → f i = 0)) : false = decide (∀ i, i < k + 1 → f i = 0) := by
  have h' : ¬ ∀ i, i < k → f i = 0 := by simpa only [decide_eq_false_iff_not] using h.symm
  symm; rw [decide_eq_false_iff_not]
  exact fun h2 => h' fun i hi => h2 i (by omega)
end G294
namespace Go.Proofs.YtblfobbeojdihaaGreatDoor
open Go.ChangeShapes Go.WideShapes Go.ChangeAt Go.RowKit G294

theorem sameBytes_same (v u : Value) (l : List UInt8) (w : World) (hv : Seen w v (bys l)) (hu : Seen w u (bys l)) :
    Calls Tryz.prog 8 #[v, u] w fun e w' => e = .returned (.bool true) ∧ w = w' := by
  have h := sameBytes_any v u l l w hv hu
  rwa [show (l == l) = true by simp] at h

set_option maxRecDepth 100000 in
set_option maxHeartbeats 1000000 in
theorem spaced_walk (v u : Value) (l0 m0 : List UInt8) (w : World) (hv : Seen w v (bys l0)) (hu : Seen w u (bys m0)) (ht : Tab w) (h0 : 3 < w.heap.size) (sA0 sA1 : Addr) (hse : Sen w sA0 sA1) :
    Calls Tryz.prog 4 #[v, u] w fun e w' => e = .returned (.bool true) ∧ Below w.heap.size w w' := by
  have HV := Lib.hid hv
  have HU := Lib.hid hu
  obtain ⟨A, c, rfl, hlc, hcm, hx⟩ := hv
  obtain ⟨A', c', rfl, hlc', hcm', hx'⟩ := hu
  rw [bys_length] at hlc hlc' hx' HV HU
  simp only [bys_length]
  clear hx
  have HX' := Lib.hid hx'
  clear hx'
  unfold maxLen at hcm hcm'
  generalize l0.length = n1 at *
  generalize hn2 : m0.length = n2 at *
  have HN2 := Lib.hid hn2
  clear hn2
  have HTB : Hid (∀ W, TurnIn 0 0 w W → Tab W ∧ 3 < W.heap.size) := fun W h => ⟨ht.below h.to_below h0, by have := h.size; omega⟩
  have HSE : Hid (∀ W, TurnIn 0 0 w W → Sen W sA0 sA1) := fun W h => hse.below h.to_below
  clear ht hse
  by_cases hbig : 1048576 < wrap64 ((n1 : Int) + (n2 : Int))
  · go_enter Tryz.func4, Tryz.ntmps4
    go_wp2_with fail
    go_ret
    exact ⟨rfl, Below.refl _ _⟩
  go_enter Tryz.func4, Tryz.ntmps4
  go_wp2_with fail
  refine (drawEncode_any _ l0 _ HV.out).mono ?_
  rintro e w1 ⟨v1, l1, t, rfl, hl1, o1, kk⟩
  obtain ⟨A1, c1, hv1⟩ := o1.seen.len
  rw [bys_length] at hv1
  subst hv1
  have z1 := kk.size
  go_wp2_with fail
  refine (encodeWord_own _ l1 t w1 o1.seen (by omega) (HTB.out _ kk).1 (HTB.out _ kk).2).mono ?_
  rintro e w2 ⟨v2, rfl, o2, k2⟩
  replace o1 := o1.keep k2 (by omega)
  replace kk := turn_trans kk k2 (by omega)
  have z2 := k2.size
  clear k2
  go_wp2_with fail
  refine (sEncodeWord_own _ l1 t w2 o1.seen (by omega)).mono ?_
  rintro e w3 ⟨v3, rfl, o3, k3⟩
  replace o1 := o1.keep k3 (by omega)
  replace o2 := o2.keep k3 (by omega)
  replace kk := turn_trans kk k3 (by omega)
  have z3 := k3.size
  clear k3 o3
  obtain ⟨ok, hok⟩ : ∃ ok, ok = encOk8 l1 t := ⟨_, rfl⟩
  rw [← hok]
  have HOK : Hid (encOk8 l1 t = ok) := hok.symm
  have hoo : (ok != ok) = false := by simp
  clear hok
  have HO1 := Lib.hid o1
  have HO2 := Lib.hid o2
  have HL1 := Lib.hid hl1
  have HK3 := Lib.hid kk
  clear o1 o2 hl1 kk
  have kk := HK3.out
  cases ok
  · go_wp2_with fail
    refine (drawSyndromes_any _ m0 _ (HU.out.touch kk)).mono ?_
    rintro e y1 ⟨v4, l4, t4, rfl, hl4, o4, k4⟩
    obtain ⟨A4, c4, hv4⟩ := o4.seen.len
    rw [bys_length] at hv4
    subst hv4
    have zz1 := kk.size
    replace kk := turn_trans kk k4 (by omega)
    clear k4
    go_wp2_with fail
    refine (syndromesOf_own _ l4 t4 y1 o4.seen (HTB.out _ kk).1 (HTB.out _ kk).2).mono ?_
    rintro e y2 ⟨v5, rfl, o5, k5⟩
    replace o4 := o4.keep k5 (by omega)
    replace kk := turn_trans kk k5 (by omega)
    have zz2 := k5.size
    clear k5
    go_wp2_with fail
    refine (sSyndromesOf_own _ l4 t4 y2 o4.seen).mono ?_
    rintro e y3 ⟨v6, rfl, o6, k6⟩
    replace o4 := o4.keep k6 (by omega)
    replace o5 := o5.keep k6 (by omega)
    replace kk := turn_trans kk k6 (by omega)
    have zz3 := k6.size
    clear k6
    go_wp2_with fail
    refine (drawLocator_any _ m0 _ (HU.out.touch kk)).mono ?_
    rintro e y4 ⟨v7, s7, rfl, hs7, o7, k7⟩
    obtain ⟨A7, c7, hv7⟩ := o7.seen.len
    rw [bys_length] at hv7
    subst hv7
    replace o4 := o4.keep k7 (by omega)
    replace o5 := o5.keep k7 (by omega)
    replace o6 := o6.keep k7 (by omega)
    replace kk := turn_trans kk k7 (by omega)
    have zz4 := k7.size
    clear k7 hs7
    go_wp2_with fail
    refine (locatorOf_own _ s7 y4 o7.seen (HTB.out _ kk).1 (HTB.out _ kk).2).mono ?_
    rintro e y5 ⟨v8, rfl, o8, k8⟩
    replace o4 := o4.keep k8 (by omega)
    replace o5 := o5.keep k8 (by omega)
    replace o6 := o6.keep k8 (by omega)
    replace o7 := o7.keep k8 (by omega)
    replace kk := turn_trans kk k8 (by omega)
    have zz5 := k8.size
    clear k8
    go_wp2_with fail
    refine (sLocatorOf_own _ s7 y5 o7.seen).mono ?_
    rintro e y6 ⟨v9, rfl, o9, k9⟩
    replace o4 := o4.keep k9 (by omega)
    replace o5 := o5.keep k9 (by omega)
    replace o6 := o6.keep k9 (by omega)
    replace o8 := o8.keep k9 (by omega)
    replace kk := turn_trans kk k9 (by omega)
    have zz6 := k9.size
    clear k9 o7
    have HS5 := Lib.hid o5.seen
    have HS6 := Lib.hid o6.seen
    have HS8 := Lib.hid o8.seen
    have HS9 := Lib.hid o9.seen
    have HS4 := Lib.hid o4.seen
    have HW : Hid (Calls Tryz.prog 9 #[.slice A4 l4.length c4, .int .i64 t4] y6 (RetBools y6 (isWR l4 t4) (fitW l4 t4))) := isWord_own _ l4 t4 sA0 sA1 y6 HS4.out (HTB.out _ kk).1 (HTB.out _ kk).2 (HSE.out _ kk)
    obtain ⟨A5, c5, hv5⟩ := o5.seen.len
    rw [bys_length] at hv5
    subst hv5
    have HCE : Hid (∀ k y, (bys (synR l4 t4))[k]? = some y → 0 < (synR l4 t4).length → ∃ b off, A5 = some ⟨b, off, none⟩ ∧ y6.cell? ⟨b, off + k, none⟩ = some y) := fun k y hk hp => by
      obtain ⟨b, off, cc, e1, _, _, hc⟩ := seen_cellsB HS5.out hp
      simp only [Value.slice.injEq] at e1
      have := hc y6 (Below.refl _ _) k y hk
      rw [Addr.add_lit] at this
      exact ⟨b, off, e1.1, this⟩
    clear o4 o5 o6 o8 o9
    have HFW : Hid (fitW l4 t4 = false → (synR l4 t4).length = 0) := fun h => by rw [synR_no h]; rfl
    have HFT : Hid (fitW l4 t4 = true → ∃ m : Nat, t4 = m ∧ (synR l4 t4).length = 2 * m ∧ m ≤ 4 ∧ isWR l4 t4 = zeroL (synR l4 t4)) := fun h => by
      obtain ⟨m, rfl, h1, h4, _, _, _⟩ := fitW_m h
      have e : synR l4 (m : Int) = synL l4 (2 * m) := by rw [synR_yes h]; simp
      exact ⟨m, rfl, by rw [e]; simp [synL], h4, by unfold isWR; rw [h, e]; simp⟩
    obtain ⟨lo, hlo⟩ : ∃ lo, lo = locOk s7 := ⟨_, rfl⟩
    rw [← hlo]
    have hlb : (lo != lo) = false := by simp
    clear hlo
    obtain ⟨N, hN⟩ : ∃ N, N = (synR l4 t4).length := ⟨_, rfl⟩
    rw [← hN] at HS5 ⊢
    have HNN : Hid ((synR l4 t4).length = N) := hN.symm
    have hN8 : N ≤ 8 := by rw [hN]; exact synR_len _ _
    clear hN
    by_cases hfit : fitW l4 t4 = true
    · obtain ⟨m, rfl, hm1, hm4, hm3⟩ := HFT.out hfit
      have hm2 : 2 * (m : Int) = (N : Int) := by have := HNN.out; omega
      have HM3 := Lib.hid hm3
      rw [hfit] at HW ⊢
      have htt : (true != true) = false := rfl
      clear hfit HFW HFT hm1 hm3
      go_wp2_with fail
      refine (sameBytes_same _ _ (synR l4 (m : Int)) _ HS5.out HS6.out).mono ?_
      rintro e w' ⟨rfl, rfl⟩
      go_wp2_with fail
      refine (sameBytes_same _ _ (locR s7) _ HS8.out HS9.out).mono ?_
      rintro e w' ⟨rfl, rfl⟩
      go_wp2_with fail
      go_loop [28, 176] (fun z i => ∃ (k : Nat) (b : Bool), k ≤ N ∧ i = .int .i64 k ∧ z = .bool b ∧ Hid (b = decide (∀ i, i < k → (synR l4 (m : Int)).getD i 0 = 0))) (fun _ i => N - (intOf i).toNat)
      case atStart => exact ⟨0, true, Nat.zero_le _, rfl, rfl, by show _ = _; simp⟩
      case round =>
        obtain ⟨k, b, hk, rfl, rfl, HB⟩ := hrel
        by_cases hlt : k < N
        · have hki : (k : Int) < (N : Int) := by omega
          have hkl : k < (synR l4 (m : Int)).length := by rw [HNN.out]; exact hlt
          obtain ⟨pb, off, rfl, hcx⟩ := HCE.out k _ (bys_get _ k hkl) (by omega)
          rw [show (synR l4 (m : Int))[k] = (synR l4 (m : Int)).getD k 0 by simp [List.getD, hkl]] at hcx
          obtain ⟨x, hx⟩ : ∃ x, x = (synR l4 (m : Int)).getD k 0 := ⟨_, rfl⟩
          rw [← hx] at hcx
          have HXX := Lib.hid hx
          clear hx HCE
          cases b
          · have HBB : Hid (false = decide (∀ i, i < k + 1 → (synR l4 (m : Int)).getD i 0 = 0)) := zero_still HB.out
            go_wp2_with fail
            go_round
            case rel => exact ⟨k + 1, false, by omega, by go_num, rfl, HBB⟩
            case measure => simp [intOf]; omega
          · by_cases hz : x = 0
            · have hzb : ((x.toNat : Int) == 0) = true := by rw [hz]; rfl
              have HBB : Hid (true = decide (∀ i, i < k + 1 → (synR l4 (m : Int)).getD i 0 = 0)) := zero_more HB.out (by rw [← HXX.out]; exact hz)
              clear hz
              go_wp2_with fail
              go_round
              case rel => exact ⟨k + 1, true, by omega, by go_num, rfl, HBB⟩
              case measure => simp [intOf]; omega
            · have hzb : ((x.toNat : Int) == 0) = false := by
                have : x.toNat ≠ 0 := fun e => hz (UInt8.toNat_inj.1 e)
                rw [beq_eq_false_iff_ne]; omega
              have HBB : Hid (false = decide (∀ i, i < k + 1 → (synR l4 (m : Int)).getD i 0 = 0)) := zero_not (by rw [← HXX.out]; exact hz)
              clear hz
              go_wp2_with fail
              go_round
              case rel => exact ⟨k + 1, false, by omega, by go_num, rfl, HBB⟩
              case measure => simp [intOf]; omega
        · obtain rfl : k = N := by omega
          have hki : ¬ (k : Int) < (k : Int) := by omega
          have HBZ : Hid (isWR l4 (m : Int) = b) := by show _ = _; rw [HM3.out, HB.out]; unfold zeroL; rw [HNN.out]
          rw [HBZ.out] at HW
          have hbb : (b == b) = true := by simp
          have hnn : ((k : Int) == (k : Int)) = true := by simp
          go_wp2_with fail
          refine HW.out.mono ?_
          rintro e y7 ⟨rfl, k7⟩
          have HK7 := Lib.hid (turn_trans kk k7 (by omega))
          clear k7
          go_wp2_with fail
          go_ret
          exact ⟨rfl, HK7.out.to_below⟩
    · have hf : fitW l4 t4 = false := by simpa using hfit
      have h00 := HFW.out hf
      have hNz : ((N : Int) == 0) = true := by rw [HNN.out] at h00; simp [h00]
      rw [hf] at HW ⊢
      have htt : (false != false) = false := rfl
      clear hf h00 hfit HFW HFT
      go_wp2_with fail
      refine (sameBytes_same _ _ (synR l4 t4) _ HS5.out HS6.out).mono ?_
      rintro e w' ⟨rfl, rfl⟩
      go_wp2_with fail
      refine (sameBytes_same _ _ (locR s7) _ HS8.out HS9.out).mono ?_
      rintro e w' ⟨rfl, rfl⟩
      go_wp2_with fail
      go_ret
      exact ⟨rfl, kk.to_below⟩
  · have HES := Lib.hid (fun (l' : List UInt8) (h : l'.length = l1.length) => enc_spaced HOK.out h)
    have HE1 : Hid (1 ≤ l1.length) := by
      have h := HOK.out
      simp only [encOk8, Bool.and_eq_true, decide_eq_true_eq] at h
      exact h.2.1
    obtain ⟨b1, off1, cc1, e1, hb1, hm1, hcell1⟩ := seen_cellsB HO1.out.seen HE1.out
    simp only [Value.slice.injEq] at e1
    obtain ⟨rfl, _, rfl⟩ := e1
    have kA : Below w3.heap.size w3 (w3.alloc (.cells #[] 5)) := (Below.refl _ _).alloc (Nat.le_refl _) _
    obtain ⟨cp, w4, hap, ho4, k4⟩ := run_appLit (P := Tryz.prog) (w3.alloc (.cells #[] 5)) 22 22 5 _ _ Tryz.underlying22 infoByte rfl ⟨w3.heap.size, 0, none⟩ ⟨b1, off1, none⟩ l1.length c1 (bys l1) HE1.out (bys_length _) (hcell1 _ kA) (fun y hy => bys_one y l1 hy) (by have := HL1.out; omega) (by omega)
    rw [World.size_alloc] at hap ho4
    have hb4 : TurnIn 0 0 w3 w4 := turn_trans (TurnIn.of_below kA) k4 (by omega)
    obtain ⟨n, hn⟩ : ∃ n, n = l1.length := ⟨_, rfl⟩
    have HLN : Hid (l1.length = n) := hn.symm
    rw [← hn] at ho4 hap HE1 ⊢
    have hn24 : n ≤ 24 := by have := HL1.out; omega
    have hn1 : 1 ≤ n := HE1.out
    obtain ⟨g, hg⟩ : ∃ g, g = w3.heap.size + 1 := ⟨_, rfl⟩
    rw [← hg] at hap ho4
    have hg4 : g < w4.heap.size := (ho4.lt g rfl).2
    have hgw : w3.heap.size ≤ g := by omega
    have hcp : n ≤ cp ∧ cp ≤ 9223372036854775807 := by
      rcases ho4.2 with ⟨hh, _⟩ | ⟨g', cap, cur, e, hbg, hg', hnc, hcm, hcs, ht⟩
      · simp at hh
      · simp only [Value.slice.injEq] at e
        unfold maxLen at hcm
        exact ⟨by omega, by omega⟩
    obtain ⟨hcp1, hcp2⟩ := hcp
    have HAP := Lib.hid hap
    have ho4' : w4.ownsRow w3.heap.size 5 1 (.slice (some ⟨g, 0, none⟩) n cp) n (bys l1) := own_base ho4 (by omega)
    clear hap ho4 hcell1 kA k4 hg hn hm1
    go_wp2_with (at_builtin; refine Lib.wpList_append_run _ rfl _ _ _ _ rfl _ _ rfl rfl _ _ HAP.out ?_)
    go_wp2_with fail
    go_loopw [65] (fun i wr => ∃ (k : Nat) (l' : List UInt8), k ≤ n ∧ i = .int .i64 k ∧ Hid (l'.length = n) ∧ wr.ownsRow w3.heap.size 5 1 (.slice (some ⟨g, 0, none⟩) n cp) n (bys l') ∧ TurnIn 0 0 w3 wr ∧ g < wr.heap.size)
      (fun i _ => n - (intOf i).toNat)
    case atStart => exact ⟨0, l1, Nat.zero_le _, rfl, HLN.out, ho4', hb4, hg4⟩
    case round =>
      obtain ⟨k, l', hk, rfl, HL', ho, kr, hgz⟩ := hrel
      clear ho4' hb4 hg4
      by_cases hlt : k < n
      · have hki : (k : Int) < (n : Int) := by omega
        by_cases hmo : k < n2
        · have hkm : (k : Int) < (n2 : Int) := by omega
          obtain ⟨pb, off, rfl, hpb, hcell⟩ := HX'.out (by omega)
          have hkl : k < m0.length := by rw [HN2.out]; exact hmo
          have hcy : wr.cell? ⟨pb, off + k, none⟩ = some (.int .u8 ((m0.getD k 0).toNat : Int)) := by
            have := ((turn_trans HK3.out kr (by omega)).to_below.cell (p := ⟨pb, off + k, none⟩) hpb).trans (hcell k _ (bys_get m0 k hkl))
            simpa [List.getD, hkl] using this
          have hcx := own_cell8 ho HL'.out.symm (k := k) hlt
          have hfr := ho.frozenAt k
          have hst := own_set8 ho k (l'.getD k 0 ^^^ m0.getD k 0)
          have hxor := xor_u8 (l'.getD k 0) (m0.getD k 0)
          have HST := Lib.hid hst
          have HLS : Hid ((l'.set k (l'.getD k 0 ^^^ m0.getD k 0)).length = n) := by show _ = _; rw [List.length_set]; exact HL'.out
          have HKR : Hid (TurnIn 0 0 w3 (wr.setCell ⟨g, k, none⟩ (.int .u8 ((l'.getD k 0 ^^^ m0.getD k 0).toNat : Int)))) := TurnIn.of_below (kr.to_below.setCell hgw _)
          clear hst ho hcell
          generalize l'.getD k 0 = x at *
          generalize m0.getD k 0 = y at *
          go_wp2_with fail
          refine wp_region_still_tail 10 (by kernel_rfl) (by kernel_rfl) ?_
          simp only [List.take_succ_cons, List.take_zero, List.drop_succ_cons, List.drop_zero]
          repeat still_step
          refine wpStill_nil ?_
          go_wp2_with fail
          go_roundw
          case rel => exact ⟨k + 1, _, by omega, by go_num, HLS, HST.out, ⟨HKR.out.os, HKR.out.tape, HKR.out.output, HKR.out.size, HKR.out.block⟩, by simpa using hgz⟩
          case measure => simp [intOf]; omega
        · have hkm : ¬ (k : Int) < (n2 : Int) := by omega
          go_wp2_with fail
          go_roundw
          case rel => exact ⟨k + 1, l', by omega, by go_num, HL', ho, kr, hgz⟩
          case measure => simp [intOf]; omega
      · obtain rfl : k = n := by omega
        have hki : ¬ (k : Int) < (k : Int) := by omega
        have kk := turn_trans HK3.out kr (by omega)
        have hol : OwnBytes 5 wr w3.heap.size wr.heap.size (.slice (some ⟨g, 0, none⟩) k cp) l' := ⟨by rw [HL'.out]; exact ho, Nat.le_refl _, fun g' e => (ho.lt g' e).2⟩
        have HO1' := Lib.hid (HO1.out.keep kr (by omega))
        have HO2' := Lib.hid (HO2.out.keep kr (by omega))
        have hzr := kr.size
        have HOK' := Lib.hid (enc_ok_len HOK.out (HL'.out.trans HLN.out.symm))
        obtain ⟨N, m, rfl, hm1, hm4, hN24, hd, hdo, hcase⟩ := HES.out l' (HL'.out.trans HLN.out.symm)
        have HD := Lib.hid hd
        have HDO := Lib.hid hdo
        have HCA := Lib.hid hcase
        clear hd hdo hcase
        have HW1 := Lib.hid (encodeWord_own _ l' (m : Int) wr hol.seen (by rw [HL'.out]; omega) (HTB.out _ kk).1 (HTB.out _ kk).2)
        clear ho
        go_wp2_with fail
        refine HW1.out.mono ?_
        rintro e x1 ⟨vx, rfl, ox, k1⟩
        rw [HOK'.out]
        have HO1x := Lib.hid (HO1'.out.keep k1 (by omega))
        have HO2x := Lib.hid (HO2'.out.keep k1 (by omega))
        have HOL := Lib.hid (hol.keep k1 (by omega))
        replace kk := turn_trans kk k1 (by omega)
        have HOX := Lib.hid ox
        clear k1 ox hol kr
        go_wp2_with fail
        refine (distanceOf_own _ _ (encR8 l1 (m : Int)) (encR8 l' (m : Int)) _ HO2x.out.seen HOX.out.seen).mono ?_
        rintro e x2 ⟨rfl, k2⟩
        replace kk := turn_trans kk k2 (by omega)
        have HO1y : Hid (Seen x2 (.slice (some ⟨b1, off1, none⟩) k c1) (bys l1)) := by
          have h := HO1x.out.seen.touch k2
          rw [HLN.out] at h
          exact h
        have HOLy := Lib.hid (HOL.out.seen.touch k2)
        have hz2 := k2.size
        clear k2
        rw [HD.out, HDO.out]
        obtain ⟨z, hz⟩ : ∃ z : Nat, z = 2 * m := ⟨_, rfl⟩
        have hmz : 2 * (m : Int) = (z : Int) := by omega
        rcases HCA.out with ⟨rfl, heq⟩ | ⟨hge, heq⟩
        · have HEQ := Lib.hid (sameBytes_any _ _ l1 l' _ HO1y.out HOLy.out)
          rw [heq] at HEQ
          clear heq hz
          go_wp2_with fail
          refine HEQ.out.mono ?_
          rintro e w' ⟨rfl, rfl⟩
          go_wp2_with fail
          refine (drawSyndromes_any _ m0 _ (HU.out.touch kk)).mono ?_
          rintro e y1 ⟨v4, l4, t4, rfl, hl4, o4, k4⟩
          obtain ⟨A4, c4, hv4⟩ := o4.seen.len
          rw [bys_length] at hv4
          subst hv4
          have zz1 := kk.size
          replace kk := turn_trans kk k4 (by omega)
          clear k4
          go_wp2_with fail
          refine (syndromesOf_own _ l4 t4 y1 o4.seen (HTB.out _ kk).1 (HTB.out _ kk).2).mono ?_
          rintro e y2 ⟨v5, rfl, o5, k5⟩
          replace o4 := o4.keep k5 (by omega)
          replace kk := turn_trans kk k5 (by omega)
          have zz2 := k5.size
          clear k5
          go_wp2_with fail
          refine (sSyndromesOf_own _ l4 t4 y2 o4.seen).mono ?_
          rintro e y3 ⟨v6, rfl, o6, k6⟩
          replace o4 := o4.keep k6 (by omega)
          replace o5 := o5.keep k6 (by omega)
          replace kk := turn_trans kk k6 (by omega)
          have zz3 := k6.size
          clear k6
          go_wp2_with fail
          refine (drawLocator_any _ m0 _ (HU.out.touch kk)).mono ?_
          rintro e y4 ⟨v7, s7, rfl, hs7, o7, k7⟩
          obtain ⟨A7, c7, hv7⟩ := o7.seen.len
          rw [bys_length] at hv7
          subst hv7
          replace o4 := o4.keep k7 (by omega)
          replace o5 := o5.keep k7 (by omega)
          replace o6 := o6.keep k7 (by omega)
          replace kk := turn_trans kk k7 (by omega)
          have zz4 := k7.size
          clear k7 hs7
          go_wp2_with fail
          refine (locatorOf_own _ s7 y4 o7.seen (HTB.out _ kk).1 (HTB.out _ kk).2).mono ?_
          rintro e y5 ⟨v8, rfl, o8, k8⟩
          replace o4 := o4.keep k8 (by omega)
          replace o5 := o5.keep k8 (by omega)
          replace o6 := o6.keep k8 (by omega)
          replace o7 := o7.keep k8 (by omega)
          replace kk := turn_trans kk k8 (by omega)
          have zz5 := k8.size
          clear k8
          go_wp2_with fail
          refine (sLocatorOf_own _ s7 y5 o7.seen).mono ?_
          rintro e y6 ⟨v9, rfl, o9, k9⟩
          replace o4 := o4.keep k9 (by omega)
          replace o5 := o5.keep k9 (by omega)
          replace o6 := o6.keep k9 (by omega)
          replace o8 := o8.keep k9 (by omega)
          replace kk := turn_trans kk k9 (by omega)
          have zz6 := k9.size
          clear k9 o7
          have HS5 := Lib.hid o5.seen
          have HS6 := Lib.hid o6.seen
          have HS8 := Lib.hid o8.seen
          have HS9 := Lib.hid o9.seen
          have HS4 := Lib.hid o4.seen
          have HW : Hid (Calls Tryz.prog 9 #[.slice A4 l4.length c4, .int .i64 t4] y6 (RetBools y6 (isWR l4 t4) (fitW l4 t4))) := isWord_own _ l4 t4 sA0 sA1 y6 HS4.out (HTB.out _ kk).1 (HTB.out _ kk).2 (HSE.out _ kk)
          obtain ⟨A5, c5, hv5⟩ := o5.seen.len
          rw [bys_length] at hv5
          subst hv5
          have HCE : Hid (∀ k y, (bys (synR l4 t4))[k]? = some y → 0 < (synR l4 t4).length → ∃ b off, A5 = some ⟨b, off, none⟩ ∧ y6.cell? ⟨b, off + k, none⟩ = some y) := fun k y hk hp => by
            obtain ⟨b, off, cc, e1, _, _, hc⟩ := seen_cellsB HS5.out hp
            simp only [Value.slice.injEq] at e1
            have := hc y6 (Below.refl _ _) k y hk
            rw [Addr.add_lit] at this
            exact ⟨b, off, e1.1, this⟩
          clear o4 o5 o6 o8 o9
          have HFW : Hid (fitW l4 t4 = false → (synR l4 t4).length = 0) := fun h => by rw [synR_no h]; rfl
          have HFT : Hid (fitW l4 t4 = true → ∃ m : Nat, t4 = m ∧ (synR l4 t4).length = 2 * m ∧ m ≤ 4 ∧ isWR l4 t4 = zeroL (synR l4 t4)) := fun h => by
            obtain ⟨m, rfl, h1, h4, _, _, _⟩ := fitW_m h
            have e : synR l4 (m : Int) = synL l4 (2 * m) := by rw [synR_yes h]; simp
            exact ⟨m, rfl, by rw [e]; simp [synL], h4, by unfold isWR; rw [h, e]; simp⟩
          obtain ⟨lo, hlo⟩ : ∃ lo, lo = locOk s7 := ⟨_, rfl⟩
          rw [← hlo]
          have hlb : (lo != lo) = false := by simp
          clear hlo
          obtain ⟨N, hN⟩ : ∃ N, N = (synR l4 t4).length := ⟨_, rfl⟩
          rw [← hN] at HS5 ⊢
          have HNN : Hid ((synR l4 t4).length = N) := hN.symm
          have hN8 : N ≤ 8 := by rw [hN]; exact synR_len _ _
          clear hN
          by_cases hfit : fitW l4 t4 = true
          · obtain ⟨m, rfl, hm1, hm4, hm3⟩ := HFT.out hfit
            have hm2 : 2 * (m : Int) = (N : Int) := by have := HNN.out; omega
            have HM3 := Lib.hid hm3
            rw [hfit] at HW ⊢
            have htt : (true != true) = false := rfl
            clear hfit HFW HFT hm1 hm3
            go_wp2_with fail
            refine (sameBytes_same _ _ (synR l4 (m : Int)) _ HS5.out HS6.out).mono ?_
            rintro e w' ⟨rfl, rfl⟩
            go_wp2_with fail
            refine (sameBytes_same _ _ (locR s7) _ HS8.out HS9.out).mono ?_
            rintro e w' ⟨rfl, rfl⟩
            go_wp2_with fail
            go_loop [28, 176] (fun z i => ∃ (k : Nat) (b : Bool), k ≤ N ∧ i = .int .i64 k ∧ z = .bool b ∧ Hid (b = decide (∀ i, i < k → (synR l4 (m : Int)).getD i 0 = 0))) (fun _ i => N - (intOf i).toNat)
            case atStart => exact ⟨0, true, Nat.zero_le _, rfl, rfl, by show _ = _; simp⟩
            case round =>
              obtain ⟨k, b, hk, rfl, rfl, HB⟩ := hrel
              by_cases hlt : k < N
              · have hki : (k : Int) < (N : Int) := by omega
                have hkl : k < (synR l4 (m : Int)).length := by rw [HNN.out]; exact hlt
                obtain ⟨pb, off, rfl, hcx⟩ := HCE.out k _ (bys_get _ k hkl) (by omega)
                rw [show (synR l4 (m : Int))[k] = (synR l4 (m : Int)).getD k 0 by simp [List.getD, hkl]] at hcx
                obtain ⟨x, hx⟩ : ∃ x, x = (synR l4 (m : Int)).getD k 0 := ⟨_, rfl⟩
                rw [← hx] at hcx
                have HXX := Lib.hid hx
                clear hx HCE
                cases b
                · have HBB : Hid (false = decide (∀ i, i < k + 1 → (synR l4 (m : Int)).getD i 0 = 0)) := zero_still HB.out
                  go_wp2_with fail
                  go_round
                  case rel => exact ⟨k + 1, false, by omega, by go_num, rfl, HBB⟩
                  case measure => simp [intOf]; omega
                · by_cases hz : x = 0
                  · have hzb : ((x.toNat : Int) == 0) = true := by rw [hz]; rfl
                    have HBB : Hid (true = decide (∀ i, i < k + 1 → (synR l4 (m : Int)).getD i 0 = 0)) := zero_more HB.out (by rw [← HXX.out]; exact hz)
                    clear hz
                    go_wp2_with fail
                    go_round
                    case rel => exact ⟨k + 1, true, by omega, by go_num, rfl, HBB⟩
                    case measure => simp [intOf]; omega
                  · have hzb : ((x.toNat : Int) == 0) = false := by
                      have : x.toNat ≠ 0 := fun e => hz (UInt8.toNat_inj.1 e)
                      rw [beq_eq_false_iff_ne]; omega
                    have HBB : Hid (false = decide (∀ i, i < k + 1 → (synR l4 (m : Int)).getD i 0 = 0)) := zero_not (by rw [← HXX.out]; exact hz)
                    clear hz
                    go_wp2_with fail
                    go_round
                    case rel => exact ⟨k + 1, false, by omega, by go_num, rfl, HBB⟩
                    case measure => simp [intOf]; omega
              · obtain rfl : k = N := by omega
                have hki : ¬ (k : Int) < (k : Int) := by omega
                have HBZ : Hid (isWR l4 (m : Int) = b) := by show _ = _; rw [HM3.out, HB.out]; unfold zeroL; rw [HNN.out]
                rw [HBZ.out] at HW
                have hbb : (b == b) = true := by simp
                have hnn : ((k : Int) == (k : Int)) = true := by simp
                go_wp2_with fail
                refine HW.out.mono ?_
                rintro e y7 ⟨rfl, k7⟩
                have HK7 := Lib.hid (turn_trans kk k7 (by omega))
                clear k7
                go_wp2_with fail
                go_ret
                exact ⟨rfl, HK7.out.to_below⟩
          · have hf : fitW l4 t4 = false := by simpa using hfit
            have h00 := HFW.out hf
            have hNz : ((N : Int) == 0) = true := by rw [HNN.out] at h00; simp [h00]
            rw [hf] at HW ⊢
            have htt : (false != false) = false := rfl
            clear hf h00 hfit HFW HFT
            go_wp2_with fail
            refine (sameBytes_same _ _ (synR l4 t4) _ HS5.out HS6.out).mono ?_
            rintro e w' ⟨rfl, rfl⟩
            go_wp2_with fail
            refine (sameBytes_same _ _ (locR s7) _ HS8.out HS9.out).mono ?_
            rintro e w' ⟨rfl, rfl⟩
            go_wp2_with fail
            go_ret
            exact ⟨rfl, kk.to_below⟩
        · have HEQ := Lib.hid (sameBytes_any _ _ l1 l' _ HO1y.out HOLy.out)
          rw [heq] at HEQ
          have hN0 : (0 : Int) < (N : Int) := by omega
          have hNz' : ((N : Int) == 0) = false := by simp; omega
          have hNlt : ¬ (N : Int) < (z : Int) + 1 := by omega
          have hNld : decide ((N : Int) < (z : Int) + 1) = false := by simpa using hNlt
          clear heq hz
          go_wp2_with fail
          refine HEQ.out.mono ?_
          rintro e w' ⟨rfl, rfl⟩
          go_wp2_with fail
          refine (drawSyndromes_any _ m0 _ (HU.out.touch kk)).mono ?_
          rintro e y1 ⟨v4, l4, t4, rfl, hl4, o4, k4⟩
          obtain ⟨A4, c4, hv4⟩ := o4.seen.len
          rw [bys_length] at hv4
          subst hv4
          have zz1 := kk.size
          replace kk := turn_trans kk k4 (by omega)
          clear k4
          go_wp2_with fail
          refine (syndromesOf_own _ l4 t4 y1 o4.seen (HTB.out _ kk).1 (HTB.out _ kk).2).mono ?_
          rintro e y2 ⟨v5, rfl, o5, k5⟩
          replace o4 := o4.keep k5 (by omega)
          replace kk := turn_trans kk k5 (by omega)
          have zz2 := k5.size
          clear k5
          go_wp2_with fail
          refine (sSyndromesOf_own _ l4 t4 y2 o4.seen).mono ?_
          rintro e y3 ⟨v6, rfl, o6, k6⟩
          replace o4 := o4.keep k6 (by omega)
          replace o5 := o5.keep k6 (by omega)
          replace kk := turn_trans kk k6 (by omega)
          have zz3 := k6.size
          clear k6
          go_wp2_with fail
          refine (drawLocator_any _ m0 _ (HU.out.touch kk)).mono ?_
          rintro e y4 ⟨v7, s7, rfl, hs7, o7, k7⟩
          obtain ⟨A7, c7, hv7⟩ := o7.seen.len
          rw [bys_length] at hv7
          subst hv7
          replace o4 := o4.keep k7 (by omega)
          replace o5 := o5.keep k7 (by omega)
          replace o6 := o6.keep k7 (by omega)
          replace kk := turn_trans kk k7 (by omega)
          have zz4 := k7.size
          clear k7 hs7
          go_wp2_with fail
          refine (locatorOf_own _ s7 y4 o7.seen (HTB.out _ kk).1 (HTB.out _ kk).2).mono ?_
          rintro e y5 ⟨v8, rfl, o8, k8⟩
          replace o4 := o4.keep k8 (by omega)
          replace o5 := o5.keep k8 (by omega)
          replace o6 := o6.keep k8 (by omega)
          replace o7 := o7.keep k8 (by omega)
          replace kk := turn_trans kk k8 (by omega)
          have zz5 := k8.size
          clear k8
          go_wp2_with fail
          refine (sLocatorOf_own _ s7 y5 o7.seen).mono ?_
          rintro e y6 ⟨v9, rfl, o9, k9⟩
          replace o4 := o4.keep k9 (by omega)
          replace o5 := o5.keep k9 (by omega)
          replace o6 := o6.keep k9 (by omega)
          replace o8 := o8.keep k9 (by omega)
          replace kk := turn_trans kk k9 (by omega)
          have zz6 := k9.size
          clear k9 o7
          have HS5 := Lib.hid o5.seen
          have HS6 := Lib.hid o6.seen
          have HS8 := Lib.hid o8.seen
          have HS9 := Lib.hid o9.seen
          have HS4 := Lib.hid o4.seen
          have HW : Hid (Calls Tryz.prog 9 #[.slice A4 l4.length c4, .int .i64 t4] y6 (RetBools y6 (isWR l4 t4) (fitW l4 t4))) := isWord_own _ l4 t4 sA0 sA1 y6 HS4.out (HTB.out _ kk).1 (HTB.out _ kk).2 (HSE.out _ kk)
          obtain ⟨A5, c5, hv5⟩ := o5.seen.len
          rw [bys_length] at hv5
          subst hv5
          have HCE : Hid (∀ k y, (bys (synR l4 t4))[k]? = some y → 0 < (synR l4 t4).length → ∃ b off, A5 = some ⟨b, off, none⟩ ∧ y6.cell? ⟨b, off + k, none⟩ = some y) := fun k y hk hp => by
            obtain ⟨b, off, cc, e1, _, _, hc⟩ := seen_cellsB HS5.out hp
            simp only [Value.slice.injEq] at e1
            have := hc y6 (Below.refl _ _) k y hk
            rw [Addr.add_lit] at this
            exact ⟨b, off, e1.1, this⟩
          clear o4 o5 o6 o8 o9
          have HFW : Hid (fitW l4 t4 = false → (synR l4 t4).length = 0) := fun h => by rw [synR_no h]; rfl
          have HFT : Hid (fitW l4 t4 = true → ∃ m : Nat, t4 = m ∧ (synR l4 t4).length = 2 * m ∧ m ≤ 4 ∧ isWR l4 t4 = zeroL (synR l4 t4)) := fun h => by
            obtain ⟨m, rfl, h1, h4, _, _, _⟩ := fitW_m h
            have e : synR l4 (m : Int) = synL l4 (2 * m) := by rw [synR_yes h]; simp
            exact ⟨m, rfl, by rw [e]; simp [synL], h4, by unfold isWR; rw [h, e]; simp⟩
          obtain ⟨lo, hlo⟩ : ∃ lo, lo = locOk s7 := ⟨_, rfl⟩
          rw [← hlo]
          have hlb : (lo != lo) = false := by simp
          clear hlo
          obtain ⟨N', hN⟩ : ∃ N', N' = (synR l4 t4).length := ⟨_, rfl⟩
          rw [← hN] at HS5 ⊢
          have HNN : Hid ((synR l4 t4).length = N') := hN.symm
          have hN8 : N' ≤ 8 := by rw [hN]; exact synR_len _ _
          clear hN
          by_cases hfit : fitW l4 t4 = true
          · obtain ⟨m, rfl, hm1, hm4, hm3⟩ := HFT.out hfit
            have hm2 : 2 * (m : Int) = (N' : Int) := by have := HNN.out; omega
            have HM3 := Lib.hid hm3
            rw [hfit] at HW ⊢
            have htt : (true != true) = false := rfl
            clear hfit HFW HFT hm1 hm3
            go_wp2_with fail
            refine (sameBytes_same _ _ (synR l4 (m : Int)) _ HS5.out HS6.out).mono ?_
            rintro e w' ⟨rfl, rfl⟩
            go_wp2_with fail
            refine (sameBytes_same _ _ (locR s7) _ HS8.out HS9.out).mono ?_
            rintro e w' ⟨rfl, rfl⟩
            go_wp2_with fail
            go_loop [28, 176] (fun z i => ∃ (k : Nat) (b : Bool), k ≤ N' ∧ i = .int .i64 k ∧ z = .bool b ∧ Hid (b = decide (∀ i, i < k → (synR l4 (m : Int)).getD i 0 = 0))) (fun _ i => N' - (intOf i).toNat)
            case atStart => exact ⟨0, true, Nat.zero_le _, rfl, rfl, by show _ = _; simp⟩
            case round =>
              obtain ⟨k, b, hk, rfl, rfl, HB⟩ := hrel
              by_cases hlt : k < N'
              · have hki : (k : Int) < (N' : Int) := by omega
                have hkl : k < (synR l4 (m : Int)).length := by rw [HNN.out]; exact hlt
                obtain ⟨pb, off, rfl, hcx⟩ := HCE.out k _ (bys_get _ k hkl) (by omega)
                rw [show (synR l4 (m : Int))[k] = (synR l4 (m : Int)).getD k 0 by simp [List.getD, hkl]] at hcx
                obtain ⟨x, hx⟩ : ∃ x, x = (synR l4 (m : Int)).getD k 0 := ⟨_, rfl⟩
                rw [← hx] at hcx
                have HXX := Lib.hid hx
                clear hx HCE
                cases b
                · have HBB : Hid (false = decide (∀ i, i < k + 1 → (synR l4 (m : Int)).getD i 0 = 0)) := zero_still HB.out
                  go_wp2_with fail
                  go_round
                  case rel => exact ⟨k + 1, false, by omega, by go_num, rfl, HBB⟩
                  case measure => simp [intOf]; omega
                · by_cases hz : x = 0
                  · have hzb : ((x.toNat : Int) == 0) = true := by rw [hz]; rfl
                    have HBB : Hid (true = decide (∀ i, i < k + 1 → (synR l4 (m : Int)).getD i 0 = 0)) := zero_more HB.out (by rw [← HXX.out]; exact hz)
                    clear hz
                    go_wp2_with fail
                    go_round
                    case rel => exact ⟨k + 1, true, by omega, by go_num, rfl, HBB⟩
                    case measure => simp [intOf]; omega
                  · have hzb : ((x.toNat : Int) == 0) = false := by
                      have : x.toNat ≠ 0 := fun e => hz (UInt8.toNat_inj.1 e)
                      rw [beq_eq_false_iff_ne]; omega
                    have HBB : Hid (false = decide (∀ i, i < k + 1 → (synR l4 (m : Int)).getD i 0 = 0)) := zero_not (by rw [← HXX.out]; exact hz)
                    clear hz
                    go_wp2_with fail
                    go_round
                    case rel => exact ⟨k + 1, false, by omega, by go_num, rfl, HBB⟩
                    case measure => simp [intOf]; omega
              · obtain rfl : k = N' := by omega
                have hki : ¬ (k : Int) < (k : Int) := by omega
                have HBZ : Hid (isWR l4 (m : Int) = b) := by show _ = _; rw [HM3.out, HB.out]; unfold zeroL; rw [HNN.out]
                rw [HBZ.out] at HW
                have hbb : (b == b) = true := by simp
                have hnn : ((k : Int) == (k : Int)) = true := by simp
                go_wp2_with fail
                refine HW.out.mono ?_
                rintro e y7 ⟨rfl, k7⟩
                have HK7 := Lib.hid (turn_trans kk k7 (by omega))
                clear k7
                go_wp2_with fail
                go_ret
                exact ⟨rfl, HK7.out.to_below⟩
          · have hf : fitW l4 t4 = false := by simpa using hfit
            have h00 := HFW.out hf
            have hNz : ((N' : Int) == 0) = true := by rw [HNN.out] at h00; simp [h00]
            rw [hf] at HW ⊢
            have htt : (false != false) = false := rfl
            clear hf h00 hfit HFW HFT
            go_wp2_with fail
            refine (sameBytes_same _ _ (synR l4 t4) _ HS5.out HS6.out).mono ?_
            rintro e w' ⟨rfl, rfl⟩
            go_wp2_with fail
            refine (sameBytes_same _ _ (locR s7) _ HS8.out HS9.out).mono ?_
            rintro e w' ⟨rfl, rfl⟩
            go_wp2_with fail
            go_ret
            exact ⟨rfl, kk.to_below⟩

set_option maxRecDepth 100000 in
theorem walk_FnSpaced : G294.LawWalk Tryz.prog 4 Tryz.f4 Rows.fnSpacedSpec.vars false (fun W => laidMetH Tryz.prog Rows.fnSpacedRow.laid W) := by
  intro H enc W base args ds gs before hval hW hX
  have hlt0 : ∀ p ∈ before, p.block < W.heap.size := fun p hp => hW.lt p hp
  obtain ⟨p, q, hA, hV, rfl, hfz, hnd⟩ := hW
  rw [Tryz.params4] at hA hval
  obtain ⟨u0, u1, d0, d1, p0, p1, rfl, rfl, rfl, t0, t1⟩ := trodAll_two hA
  obtain ⟨l0, sn0⟩ := seen_bytes Tryz.underlying22 Tryz.underlying5 (by kernel_rfl) (hval 0 22 u0 rfl rfl) t0 (fun x hx => hlt0 x (by simp [hx]))
  obtain ⟨l1, sn1⟩ := seen_bytes Tryz.underlying22 Tryz.underlying5 (by kernel_rfl) (hval 1 22 u1 rfl rfl) t1 (fun x hx => hlt0 x (by simp [hx]))
  obtain ⟨ht, hs⟩ := tab_of (by kernel_rfl) hX 0 rfl (by kernel_rfl)
  have hM := hX
  rw [MakeChecks.laidMetH_plain _ _ _ (by kernel_rfl)] at hM
  obtain ⟨sA0, sA1, hse⟩ := sen_of (Go.laidMet.tail hM)
  exact spaced_walk u0 u1 l0 l1 W sn0 sn1 ht hs sA0 sA1 hse
end Go.Proofs.YtblfobbeojdihaaGreatDoor
