/- The walk of FnSecret. -/
import Derived.Test.YtgbhcjfnkjhkiaaDoorRows
import Derived.Test.YtgbhcjfnkjhkiaaDoorBd00
import Derived.Test.YtgbhcjfnkjhkiaaDoorBd11
import Derived.Test.YtgbhcjfnkjhkiaaDoorBd10
import Derived.Test.YtgbhcjfnkjhkiaaDoorBd12
import Derived.Test.YtgbhcjfnkjhkiaaDoorBd02
import Derived.Test.YtgbhcjfnkjhkiaaDoorBd05
import Derived.Test.YtgbhcjfnkjhkiaaDoorBd14
set_option linter.unusedSimpArgs false
set_option linter.unusedVariables false
namespace G294
open Go Go.RowKit
theorem set_ne (r : List UInt8) (t : Nat) (h : t < r.length) : r.set t (r[t] ^^^ 1) ≠ r := fun e => by
  have h1 : (r.set t (r[t] ^^^ 1))[t]? = r[t]? := by rw [e]
  rw [List.getElem?_set_self h, List.getElem?_eq_getElem h] at h1
  simp only [Option.some.injEq] at h1
  have h2 := congrArg (fun z => r[t] ^^^ z) h1
  simp only [UInt8.xor_self] at h2
  rw [← UInt8.xor_assoc, UInt8.xor_self, UInt8.zero_xor] at h2
  exact absurd h2 (by decide)
def fitsK (l : List Sr) (q : List UInt8) (k : Nat) : Bool := decide (∀ i, i < k → hor (xF l i) q = yF l i)
theorem fitsK_zero (l : List Sr) (q : List UInt8) : fitsK l q 0 = true := by simp [fitsK]
theorem fitsK_succ (l : List Sr) (q : List UInt8) (k : Nat) : fitsK l q (k + 1) = (fitsK l q k && (hor (xF l k) q == yF l k)) := by
  rw [Bool.eq_iff_iff]
  simp only [fitsK, decide_eq_true_eq, Bool.and_eq_true, beq_iff_eq]
  exact ⟨fun h => ⟨fun i hi => h i (by omega), h k (by omega)⟩, fun h i hi => by
    rcases Nat.lt_or_ge i k with h' | h'
    · exact h.1 i h'
    · obtain rfl : i = k := by omega
      exact h.2⟩
theorem fits_not {l : List Sr} (h : shrOk l = true) (h19 : l.length ≤ 19) (s : UInt8) {t : Nat} (ht : t < (rndL l s).length) : fitsK l (s :: (rndL l s).set t ((rndL l s)[t] ^^^ 1)) l.length = false := by
  cases e : fitsK l (s :: (rndL l s).set t ((rndL l s)[t] ^^^ 1)) l.length
  · rfl
  · exfalso
    simp only [fitsK, decide_eq_true_eq] at e
    have := rnd_only h s (q := (rndL l s).set t ((rndL l s)[t] ^^^ 1)) (r := rndL l s) (by rw [List.length_set, rndL_length]) (rndL_length l s) (fun i hi => by rw [e i hi, rnd_pass h h19 s hi])
    exact set_ne _ t ht this
theorem eq_byte (x y : UInt8) : ((x.toNat : Int) == (y.toNat : Int)) = (x == y) := by
  rw [Bool.eq_iff_iff, beq_iff_eq, beq_iff_eq]
  exact ⟨fun h => UInt8.toNat_inj.1 (by omega), fun h => by rw [h]⟩
end G294
namespace Go.Proofs.YtgbhcjfnkjhkiaaDoor
open Go.ChangeShapes Go.WideShapes Go.ChangeAt Go.RowKit G294

set_option maxHeartbeats 1000000 in
theorem drawRandomFor_any (v : Value) (l : List UInt8) (w : World) (hv : Seen w v (bys l)) : Calls Tryd.prog 48 #[v] w (RetShB w) := by
  have HV := Lib.hid hv
  clear hv
  go_enter Tryd.func48, Tryd.ntmps48
  go_wp2_with fail
  refine (drawInterpolate_any _ l _ HV.out).mono ?_
  rintro e w1 ⟨v1, l1, x, rfl, hl1, ho1, k1⟩
  have HL1 := Lib.hid hl1
  clear hl1
  go_wp2_with fail
  go_ret2
  exact ⟨v1, l1, x, rfl, HL1.out, ho1, k1⟩

set_option maxRecDepth 100000 in
set_option maxHeartbeats 8000000 in
theorem secret_walk (v u : Value) (l0 m0 : List UInt8) (w : World) (hv : Seen w v (bys l0)) (hu : Seen w u (bys m0)) (ht : Tab w) (h0 : 0 < w.heap.size) :
    Calls Tryd.prog 6 #[v, u] w fun e w' => e = .returned (.bool true) ∧ Below w.heap.size w w' := by
  have HV := Lib.hid hv
  have HU := Lib.hid hu
  obtain ⟨A, c, rfl, hlc, hcm, hx⟩ := hv
  obtain ⟨A', c', rfl, hlc', hcm', hx'⟩ := hu
  rw [bys_length] at hlc hlc' HV HU
  simp only [bys_length]
  clear hx hx'
  unfold maxLen at hcm hcm'
  generalize l0.length = n1 at *
  generalize m0.length = n2 at *
  have HTB : Hid (∀ W, TurnIn 0 0 w W → Tab W ∧ 0 < W.heap.size) := fun W h => ⟨ht.below h.to_below h0, by have := h.size; omega⟩
  clear ht
  by_cases hbig : 1048576 < wrap64 ((n1 : Int) + (n2 : Int))
  · go_enter Tryd.func6, Tryd.ntmps6
    go_wp2_with fail
    go_ret
    exact ⟨rfl, Below.refl _ _⟩
  go_enter Tryd.func6, Tryd.ntmps6
  go_wp2_with fail
  refine (drawRandomFor_any _ l0 _ HV.out).mono ?_
  rintro e w1 ⟨vl, l, s, rfl, hl20, ol, kk⟩
  obtain ⟨Al, cl, rfl⟩ := ol.seen.len
  have hcap : l.length ≤ cl ∧ cl ≤ 9223372036854775807 := by
    obtain ⟨Ax, cx, e', h1, h2, _⟩ := ol.seen
    simp only [Value.slice.injEq] at e'
    unfold maxLen at h2
    omega
  have z1 := kk.size
  have HNO := Lib.hid ol.nilOk
  go_wp2_with fail
  refine (randomFor_own _ l s _ ol.seen HNO.out (HTB.out _ kk).1 (HTB.out _ kk).2).mono ?_
  rintro e w2 ⟨vr, rfl, orr, k2⟩
  replace ol := ol.keep k2 (by omega)
  replace kk := turn_trans kk k2 (by omega)
  have zz2 := k2.size
  clear k2
  go_wp2_with fail
  refine (sRandomFor_own _ l s _ ol.seen).mono ?_
  rintro e w3 ⟨vt, rfl, ot, k3⟩
  replace ol := ol.keep k3 (by omega)
  replace orr := orr.keep k3 (by omega)
  replace kk := turn_trans kk k3 (by omega)
  have zz3 := k3.size
  clear k3
  obtain ⟨ok, hok⟩ : ∃ ok, ok = rndOk l := ⟨_, rfl⟩
  rw [← hok]
  have HOK := Lib.hid hok
  have hoo : (ok != ok) = false := by simp
  clear hok
  go_wp2_with fail
  refine (sameBytes_any _ _ (rndR l s) (rndR l s) _ orr.seen ot.seen).mono ?_
  rintro e w4 ⟨rfl, rfl⟩
  rw [beq_self_eq_true]
  obtain ⟨Ar, cr, hvr⟩ := orr.seen.len
  rw [bys_length] at hvr
  cases ok
  · have HRE := Lib.hid (rndR_no (s := s) HOK.out.symm)
    rw [HRE.out] at hvr
    simp only [List.length_nil] at hvr
    subst hvr
    go_wp2_with fail
    go_ret
    exact ⟨rfl, kk.to_below⟩
  · have hok2 := HOK.out.symm
    have h8 : shrOk l = true ∧ l.length ≤ 8 := by simpa only [rndOk, Bool.and_eq_true, decide_eq_true_eq] using hok2
    obtain ⟨hsh, hn8⟩ := h8
    have HSH := Lib.hid hsh
    have HRY := Lib.hid (rndR_yes (s := s) hok2)
    rw [HRY.out] at orr hvr
    rw [rndL_length] at hvr
    subst hvr
    have HPA : Hid (∀ i, i < l.length → hor (xF l i) (s :: rndL l s) = yF l i) := fun i hi => rnd_pass hsh (by omega) s hi
    have HFN : Hid (∀ t (h : t < (rndL l s).length), fitsK l (s :: (rndL l s).set t ((rndL l s)[t] ^^^ 1)) l.length = false) := fun t h => fits_not hsh (by omega) s h
    have HRL := Lib.hid (rndL_length l s)
    have HRN := Lib.hid orr.nilOk
    have HOR := Lib.hid orr
    have HOL := Lib.hid ol
    obtain ⟨rl, hrl⟩ : ∃ rl, rl = rndL l s := ⟨_, rfl⟩
    rw [← hrl] at HPA HFN HRL HOR
    clear hrl hok2 hsh orr ol ot HNO hl20
    generalize hnn : l.length = n at *
    have HN := Lib.hid hnn
    obtain ⟨hcap1, hcap2⟩ := hcap
    clear hnn
    have ta := turn_alloc w3 (.cells #[.int .u8 (s.toNat : Int)] 5)
    have za := World.size_alloc w3 (.cells #[.int .u8 (s.toNat : Int)] 5)
    have HO1 : Hid ((w3.alloc (.cells #[.int .u8 (s.toNat : Int)] 5)).ownsRow w3.heap.size 5 1 (.slice (some ⟨w3.heap.size, 0, none⟩) 1 1) 1 (bys [s])) := own_new1 w3 5 (.int .u8 (s.toNat : Int))
    have zk := kk.size
    go_wp2_with (at_builtin; refine wpList_appendB rfl _ _ _ rfl w3.heap.size 5 Tryd.underlying22 infoByte _ 1 [s] rl rfl HO1.out _ rfl ((HOR.out.keep ta (by omega)).seen) HRN.out ?b1 ?b2 ?_)
    case b1 => rw [HRL.out]; omega
    case b2 => simp
    intro v5 w5 ho5 hg5
    rw [HRL.out] at ho5
    have t5 := turn_grow (turn_trans (TurnIn.refl w3) ta (by omega)) hg5 (fun g e => by simp [Value.ownBlock] at e; omega)
    have HP5 : Hid (OwnBytes 5 w5 w3.heap.size w5.heap.size v5 (s :: rl)) := ⟨by rw [List.length_cons, HRL.out, Nat.add_comm n 1]; exact ho5, Nat.le_refl _, fun g e => (ho5.lt g e).2⟩
    obtain ⟨A5, c5, hv5⟩ := HP5.out.seen.len
    rw [bys_length, List.length_cons, HRL.out] at hv5
    subst hv5
    have HL5 := Lib.hid (HOL.out.keep t5 (by omega))
    have HR5 := Lib.hid (HOR.out.keep t5 (by omega))
    have k5 := turn_trans kk t5 (by omega)
    have z5 := t5.size
    have HPO : Hid (polOk (s :: rl) = true) := by show _ = _; simp only [polOk, decide_eq_true_eq, List.length_cons, HRL.out]; omega
    have HPR : Hid (∀ x, polR (s :: rl) x = hor x (s :: rl)) := fun x => if_pos (by rw [List.length_cons, HRL.out]; omega)
    clear ho5 hg5 t5 ta za HO1 HOR HOL kk
    go_wp2_with fail
    go_loopw [65] (fun i wr => ∃ k : Nat, k ≤ n ∧ i = .int .i64 k ∧ TurnIn 0 0 w5 wr) (fun i _ => n - (intOf i).toNat)
    case atStart => exact ⟨0, Nat.zero_le _, rfl, TurnIn.refl _⟩
    case round =>
      obtain ⟨k, hk, rfl, kT⟩ := hrel
      by_cases hlt : k < n
      · have hki : (k : Int) < (n : Int) := by omega
        obtain ⟨Ax, cx, e', _, _, hx⟩ := HL5.out.seen.below kT.to_below
        simp only [Value.slice.injEq] at e'
        obtain ⟨rfl, hnx, rfl⟩ := e'
        clear hnx
        obtain ⟨b, off, rfl, hbl, hcell⟩ := hx (by rw [HN.out]; omega)
        obtain ⟨⟨x, y⟩, hks⟩ := at_ltR HN.out hlt
        obtain ⟨e1, e2⟩ := at_xy hks
        have hc1 := (hcell k _ hks).1
        have hc2 := (hcell k _ hks).2
        simp only at hc1 hc2 e1 e2
        have HY : Hid (hor x (s :: rl) = y) := by show _ = _; rw [e1, e2]; exact HPA.out k hlt
        have ta := turn_alloc wr (.cells #[.int .u8 (x.toNat : Int), .int .u8 (y.toNat : Int)] 59)
        have hp1 : (wr.alloc (.cells #[.int .u8 (x.toNat : Int), .int .u8 (y.toNat : Int)] 59)).cell? ⟨wr.heap.size, 1, none⟩ = some (.int .u8 (y.toNat : Int)) := by simp
        have hz := World.size_alloc wr (.cells #[.int .u8 (x.toNat : Int), .int .u8 (y.toNat : Int)] 59)
        have kA := turn_trans kT ta (by omega)
        have kW := turn_trans k5 kA (by omega)
        clear hcell hx hks e1 e2 ta kT
        go_wp2_with fail
        refine (polyAt_own _ (s :: rl) x _ (HP5.out.keep kA (by omega)).seen (HTB.out _ kW).1 (HTB.out _ kW).2).mono ?_
        rintro e w6 ⟨rfl, k6⟩
        rw [HPO.out, HPR.out, HY.out]
        have d1 := cell_turn k6 hp1 (by omega)
        have k7 := turn_trans kA k6 (by omega)
        have hyy : ((y.toNat : Int) != (y.toNat : Int)) = false := by simp
        clear hp1 hz k6 kA kW
        go_wp2_with fail
        go_roundw
        case rel => exact ⟨k + 1, by omega, by go_num, k7⟩
        case measure => simp [intOf]; omega
      · obtain rfl : k = n := by omega
        have hki : ¬ (k : Int) < (k : Int) := by omega
        have hkk : ((k : Int) == (k : Int)) = true := by simp
        have kW := turn_trans k5 kT (by omega)
        by_cases hz0 : 0 < k
        · have hz0i : (0 : Int) < (k : Int) := by omega
          have HP6 := Lib.hid (HP5.out.keep kT (by omega))
          have HL6 := Lib.hid (HL5.out.keep kT (by omega))
          have ta := turn_alloc wr (.cells #[] 5)
          have za := World.size_alloc wr (.cells #[] 5)
          have HEM : Hid ((wr.alloc (.cells #[] 5)).ownsRow wr.heap.size 5 1 (.slice (some ⟨wr.heap.size, 0, none⟩) 0 0) 0 (bys [])) := ⟨rfl, .inr ⟨wr.heap.size, 0, #[], rfl, Nat.le_refl _, heap_alloc_new wr _, Nat.le_refl _, by unfold maxLen; omega, rfl, rfl⟩⟩
          have zT := kT.size
          go_wp2_with (at_builtin; refine wpList_appendB rfl _ _ _ rfl wr.heap.size 5 Tryd.underlying22 infoByte _ 0 [] (s :: rl) rfl HEM.out _ rfl ((HP6.out.keep ta (by omega)).seen) HP6.out.nilOk ?b1 ?b2 ?_)
          case b1 => simp [HRL.out]; omega
          intro v7 w7 ho7 hg7
          have hlq : (s :: rl).length = k + 1 := by rw [List.length_cons, HRL.out]
          replace ho7 : w7.ownsRow wr.heap.size 5 1 v7 (k + 1) (bys (s :: rl)) := by rw [← hlq]; simpa using ho7
          have t7 := turn_grow (turn_trans (TurnIn.refl wr) ta (by omega)) hg7 (fun g e => by simp [Value.ownBlock] at e; omega)
          have k7 := turn_trans kW t7 (by omega)
          have HL7 := Lib.hid (HL6.out.keep t7 (by omega))
          have z7 := t7.size
          rcases ho7.2 with ⟨_, hh0⟩ | ⟨gg, cap, cur, rfl, hbg, _, hnc, hcmm, _, _⟩
          · omega
          unfold maxLen at hcmm
          have HO7 := Lib.hid ho7
          have HLQ := Lib.hid hlq
          clear hlq ho7 hg7 t7 ta za HEM HP6 kT kW hkk
          go_wp2_with fail
          refine (numberOf_any _ m0 _ (HU.out.touch k7)).mono ?_
          rintro e w8 ⟨num, hnum, rfl, rfl⟩
          have htk : num % k < k := Nat.mod_lt _ hz0
          have htl : num % k < rl.length := by rw [HRL.out]; exact htk
          obtain ⟨z, hz⟩ : ∃ z, z = rl[num % k] := ⟨_, rfl⟩
          have hcx : w7.cell? ⟨gg, 1 + num % k, none⟩ = some (.int .u8 (z.toNat : Int)) := by
            rw [HO7.out.cellAt (1 + num % k) (by omega), bys_get (s :: rl) (1 + num % k) (by rw [HLQ.out]; omega), hz]
            simp [Nat.add_comm 1]
          have hfr := HO7.out.frozenAt (1 + num % k)
          have hxor : bits .xor .u8 (z.toNat : Int) 1 = ((z ^^^ 1).toNat : Int) := xor_u8 z 1
          obtain ⟨q, hq⟩ : ∃ q, q = s :: rl.set (num % k) (z ^^^ 1) := ⟨_, rfl⟩
          have hgl : gg < w7.heap.size := (HO7.out.lt gg rfl).2
          have hP7 : OwnBytes 5 w7 wr.heap.size w7.heap.size (.slice (some ⟨gg, 0, none⟩) (k + 1) cap) (s :: rl) := ⟨by rw [HLQ.out]; exact HO7.out, Nat.le_refl _, fun g e => (HO7.out.lt g e).2⟩
          have HQ8 := Lib.hid (hP7.store (q := 1 + num % k) (x := z ^^^ 1) (l' := q) HLQ.out (by rw [hq, Nat.add_comm 1, List.set_cons_succ]))
          have HF : Hid (fitsK l q k = false) := by show _ = _; rw [hq, hz]; exact HFN.out _ htl
          have HQL : Hid (q.length = k + 1) := by show _ = _; rw [hq, List.length_cons, List.length_set, HRL.out]
          have tst := turn_set w7 gg (1 + num % k) (.int .u8 ((z ^^^ 1).toNat : Int))
          have HL8 := Lib.hid (HL7.out.keep tst (by omega))
          have HK8 := Lib.hid (turn_trans k7 tst (by omega))
          have z8 := tst.size
          have HPO : Hid (polOk q = true) := by show _ = _; simp only [polOk, decide_eq_true_eq, HQL.out]; omega
          have HPR : Hid (∀ x, polR q x = hor x q) := fun x => if_pos (by rw [HQL.out]; omega)
          clear hq hz htl tst hP7 HO7 HL7 k7
          go_wp2_with fail
          go_loopw [17, 104] (fun sm i wr => ∃ j : Nat, j ≤ k ∧ i = .int .i64 j ∧ sm = .bool (fitsK l q j) ∧ TurnIn 0 0 (w7.setCell ⟨gg, 1 + num % k, none⟩ (.int .u8 ((z ^^^ 1).toNat : Int))) wr) (fun _ i _ => k - (intOf i).toNat)
          case atStart => exact ⟨0, Nat.zero_le _, rfl, by rw [fitsK_zero], TurnIn.refl _⟩
          case round =>
            obtain ⟨j, hj, rfl, rfl, kT⟩ := hrel
            by_cases hlt : j < k
            · have hji : (j : Int) < (k : Int) := by omega
              obtain ⟨Ax, cx, e', _, _, hx⟩ := HL8.out.seen.below kT.to_below
              simp only [Value.slice.injEq] at e'
              obtain ⟨rfl, hnx, rfl⟩ := e'
              clear hnx
              obtain ⟨b, off, rfl, hbl, hcell⟩ := hx (by rw [HN.out]; omega)
              obtain ⟨⟨x, y⟩, hks⟩ := at_ltR HN.out hlt
              obtain ⟨e1, e2⟩ := at_xy hks
              have hc1 := (hcell j _ hks).1
              have hc2 := (hcell j _ hks).2
              simp only at hc1 hc2 e1 e2
              have HE : Hid (fitsK l q (j + 1) = (fitsK l q j && (((hor x q).toNat : Int) == (y.toNat : Int)))) := by show _ = _; rw [eq_byte, e1, e2]; exact fitsK_succ l q j
              have ta := turn_alloc wr (.cells #[.int .u8 (x.toNat : Int), .int .u8 (y.toNat : Int)] 59)
              have hp1 : (wr.alloc (.cells #[.int .u8 (x.toNat : Int), .int .u8 (y.toNat : Int)] 59)).cell? ⟨wr.heap.size, 1, none⟩ = some (.int .u8 (y.toNat : Int)) := by simp
              have hz := World.size_alloc wr (.cells #[.int .u8 (x.toNat : Int), .int .u8 (y.toNat : Int)] 59)
              have kA := turn_trans kT ta (by omega)
              have kW := turn_trans HK8.out kA (by omega)
              obtain ⟨sm, hsm⟩ : ∃ sm, sm = fitsK l q j := ⟨_, rfl⟩
              rw [← hsm] at HE ⊢
              clear hcell hx hks e1 e2 ta kT hsm
              go_wp2_with fail
              refine (polyAt_own _ q x _ (HQ8.out.keep kA (by omega)).seen (HTB.out _ kW).1 (HTB.out _ kW).2).mono ?_
              rintro e w6 ⟨rfl, k6⟩
              rw [HPO.out, HPR.out]
              have d1 := cell_turn k6 hp1 (by omega)
              have k9 := turn_trans kA k6 (by omega)
              clear hp1 hz k6 kA kW
              generalize hor x q = pv at *
              cases sm
              · go_wp2_with fail
                go_roundw
                case rel => exact ⟨j + 1, by omega, by go_num, by rw [HE.out]; rfl, k9⟩
                case measure => simp [intOf]; omega
              · go_wp2_with fail
                go_roundw
                case rel => exact ⟨j + 1, by omega, by go_num, by rw [HE.out]; rfl, k9⟩
                case measure => simp [intOf]; omega
            · obtain rfl : j = k := by omega
              have hji : ¬ (j : Int) < (j : Int) := by omega
              have hkk : ((j : Int) == (j : Int)) = true := by simp
              rw [HF.out]
              have kW := turn_trans HK8.out kT (by omega)
              go_wp2_with fail
              go_ret
              exact ⟨rfl, kW.to_below⟩
        · have hz0i : ¬ (0 : Int) < (k : Int) := by omega
          go_wp2_with fail
          go_ret
          exact ⟨rfl, kW.to_below⟩

set_option maxRecDepth 100000 in
theorem walk_FnSecret : G294.LawWalk Tryd.prog 6 Tryd.f6 Rows.fnSecretSpec.vars false (fun W => laidMetH Tryd.prog Rows.fnSecretRow.laid W) := by
  intro H enc W base args ds gs before hval hW hX
  have hlt0 : ∀ p ∈ before, p.block < W.heap.size := fun p hp => hW.lt p hp
  obtain ⟨p, q, hA, hV, rfl, hfz, hnd⟩ := hW
  rw [Tryd.params6] at hA hval
  obtain ⟨u0, u1, d0, d1, p0, p1, rfl, rfl, rfl, t0, t1⟩ := trodAll_two hA
  obtain ⟨l0, sn0⟩ := seen_bytes Tryd.underlying22 Tryd.underlying5 (by kernel_rfl) (hval 0 22 u0 rfl rfl) t0 (fun x hx => hlt0 x (by simp [hx]))
  obtain ⟨l1, sn1⟩ := seen_bytes Tryd.underlying22 Tryd.underlying5 (by kernel_rfl) (hval 1 22 u1 rfl rfl) t1 (fun x hx => hlt0 x (by simp [hx]))
  obtain ⟨ht, hs⟩ := tab_of (by kernel_rfl) hX 0 rfl (by kernel_rfl)
  exact secret_walk u0 u1 l0 l1 W sn0 sn1 ht hs

end Go.Proofs.YtgbhcjfnkjhkiaaDoor
