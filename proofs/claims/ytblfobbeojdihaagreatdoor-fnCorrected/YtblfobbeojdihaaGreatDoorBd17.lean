/- Joined texts: CorS, CorLaw, HanOf. -/
import Derived.Test.YtblfobbeojdihaaGreatDoorBd16
import Derived.Test.YtblfobbeojdihaaGreatDoorBd14
import Derived.Test.YtblfobbeojdihaaGreatDoorBd15
import Derived.Test.YtblfobbeojdihaaGreatDoorBd07
import Derived.Test.YtblfobbeojdihaaGreatDoorRows
set_option linter.unusedSimpArgs false
set_option linter.unusedVariables false
/- Chapter 8: CorrectWord: the model's. -/
namespace G294
open Go Go.RowKit
theorem apl_cor {s : List UInt8} {P : List Nat} (hs : P.length ≤ s.length) : aplL P.length P.length (bst (plcF (corX P)) idF P.length P.length) (s.take P.length) = mkRow P.length (corE s P) := by
  unfold aplL
  refine mkRow_congr fun i hi => ?_
  unfold corE
  rw [bst_lin _ _ _ _ _ _ hi]
  unfold dotL
  rw [mkRow_length, dotK_sum]
  refine sumK_congr fun k hk => ?_
  rw [mkRow_getD _ _ _ hk]
  congr 1
  simp [List.getD, List.getElem?_take, hk]
theorem cor_row (P : List Nat) (i n : Nat) : (mkRow n fun j => powB (powB 3 (i + 1)) (P.getD j 0)) = mkRow n (plcF (corX P) i) := mkRow_congr fun j _ => powB_swap 3 (i + 1) (P.getD j 0)
/-- where a change is 0 nothing is answered -/
theorem cor_zero {l : List UInt8} {m : Nat} (hz : isWR l (m : Int) = false) (hf : fitW l (m : Int) = true) (h0 : (plcs l.length (locL (synL l (2 * m)))).length ≠ 0) (h : (plcs l.length (locL (synL l (2 * m)))).length = locN (synL l (2 * m)) ((synL l (2 * m)).length / 2))
    {k : Nat} (hk : k < (plcs l.length (locL (synL l (2 * m)))).length) (he : corE (synL l (2 * m)) (plcs l.length (locL (synL l (2 * m)))) k = 0) : corR l (m : Int) = [] ∧ corN l (m : Int) = 0 ∧ corOk l (m : Int) = false := by
  have h24 : l.length ≤ 24 := by simp only [fitW, Bool.and_eq_true, decide_eq_true_eq] at hf; omega
  refine (cor_long hz hf rfl h0 h).2 ?_
  by_cases hy : zeroL (synL (putE l (plcs l.length (locL (synL l (2 * m)))) (corE (synL l (2 * m)) (plcs l.length (locL (synL l (2 * m))))) (plcs l.length (locL (synL l (2 * m)))).length) (2 * m)) = true
  · exact absurd he (no_zero h24 (by omega) h h0 hy k hk)
  · simpa using hy
end G294
namespace Go.Proofs.YtblfobbeojdihaaGreatDoor
open Go.RowKit G294

theorem l1Pow_u8 (x : UInt8) (n : Nat) (w : World) (hn : n ≤ 10000) : Calls Tryz.prog 48 #[.int .u8 (x.toNat : Int), .int .i64 (n : Int)] w fun e w' => e = .returned (.int .u8 ((powB x n).toNat : Int)) ∧ w = w' := by
  rw [powB_toNat]; exact l1Power_any _ _ x.toNat_lt hn w

set_option maxRecDepth 100000 in
set_option maxHeartbeats 2000000 in
theorem sCorrectWord_own (v : Value) (l : List UInt8) (t : Int) (w : World) (hv : Seen w v (bys l)) :
    Calls Tryz.prog 15 #[v, .int .i64 t] w (RetCor 5 w (corR l t) (corN l t) (corOk l t)) := by
  have HV := Lib.hid hv
  obtain ⟨A, c, rfl, hlc, hcm, _⟩ := hv
  rw [bys_length] at HV hlc ⊢
  unfold maxLen at hcm
  have HFT := Lib.hid (l8Fits_any A l c t w (by omega))
  by_cases hf : fitW l t = true
  · obtain ⟨m, rfl, hm1, hm4, hm2, hl24, _⟩ := fitW_m hf
    have HF := Lib.hid hf
    obtain ⟨b, off, cc, e1, hbl, hbm, hcell⟩ := seen_cellsB HV.out (by omega)
    simp only [Value.slice.injEq] at e1
    obtain ⟨rfl, _, rfl⟩ := e1
    have HAPP : Hid (∀ W, TurnIn 0 0 w W → ∃ cp W1, (Builtin.append_ #[22, 22] 22 #[.slice (some ⟨W.heap.size, 0, none⟩) 0 0, .slice (some ⟨b, off, none⟩) l.length c]).run Tryz.prog (W.alloc (.cells #[] 5)) = .ok (.slice (some ⟨W.heap.size + 1, 0, none⟩) l.length cp) W1 ∧
        W1.ownsRow W.heap.size 5 1 (.slice (some ⟨W.heap.size + 1, 0, none⟩) l.length cp) l.length (bys l) ∧ TurnIn 0 0 W W1 ∧ l.length ≤ cp ∧ cp ≤ 9223372036854775807 ∧ W.heap.size + 1 < W1.heap.size) := fun W hW => by
      have kA := turn_alloc W (.cells #[] 5)
      obtain ⟨cp, w4, hap, ho4, k4⟩ := run_appLit (P := Tryz.prog) (W.alloc (.cells #[] 5)) 22 22 5 _ _ Tryz.underlying22 infoByte rfl ⟨W.heap.size, 0, none⟩ ⟨b, off, none⟩ l.length c (bys l) (by omega) (bys_length _) (hcell _ (turn_trans hW kA (by omega)).to_below) (fun y hy => bys_one y l hy) (by omega) (by omega)
      rw [World.size_alloc] at hap ho4
      have hlt := (ho4.lt (W.heap.size + 1) rfl).2
      have hcp : l.length ≤ cp ∧ cp ≤ 9223372036854775807 := by
        rcases ho4.2 with ⟨hh, _⟩ | ⟨g', cap, cur, e, hbg, hg', hnc, hcm, hcs, ht⟩
        · simp at hh
        · simp only [Value.slice.injEq] at e
          unfold maxLen at hcm
          exact ⟨by omega, by omega⟩
      exact ⟨cp, w4, hap, own_base ho4 (by omega), turn_trans kA k4 (by omega), hcp.1, hcp.2, hlt⟩
    have HSY := Lib.hid (l8Syndromes_own _ l m w HV.out hm1 hm4)
    obtain ⟨s, hs⟩ : ∃ s, s = synL l (2 * m) := ⟨_, rfl⟩
    have HSS : Hid (synL l (2 * m) = s) := hs.symm
    rw [← hs] at HSY
    have HSL : Hid (s.length = 2 * m) := by show _ = _; rw [hs]; simp
    have HWZ : Hid (isWR l (m : Int) = zeroL s) := by show _ = _; rw [hs, isWR, hf]; simp
    clear hcell hs hbm
    go_enter Tryz.func15, Tryz.ntmps15
    go_wp2_with fail
    refine HFT.out.mono ?_
    rintro e w' ⟨rfl, rfl⟩
    rw [HF.out]
    go_wp2_with fail
    refine HSY.out.mono ?_
    rintro e w1 ⟨v1, rfl, o1, k1⟩
    have z1 := k1.size
    obtain ⟨g1, cp1, rfl, hg11, hg12, hcp11, hcp12⟩ := o1.slice (by rw [HSL.out]; omega)
    obtain ⟨S, hS⟩ : ∃ S, S = s.length := ⟨_, rfl⟩
    have HSS2 : Hid (s.length = S) := hS.symm
    rw [← hS] at o1 hcp11 ⊢
    have hS8 : S = 2 * m := by rw [hS]; exact HSL.out
    have HS8 := Lib.hid hS8
    unfold maxLen at hcp12
    clear hS hS8
    have HZC := Lib.hid (l8Zero_any _ s w1 o1.seen)
    go_wp2_with fail
    refine HZC.out.mono ?_
    rintro e w' ⟨rfl, rfl⟩
    by_cases hz : zeroL s = true
    · obtain ⟨e1, e2, e3⟩ := cor_right (l := l) (t := (m : Int)) (by rw [HWZ.out]; exact hz)
      have HE1 := Lib.hid e1
      have HE2 := Lib.hid e2
      have HE3 := Lib.hid e3
      rw [hz]
      obtain ⟨cp, w2, hap, ho2, k2, hcp1, hcp2, hlt⟩ := HAPP.out w1 k1
      have HAP := Lib.hid hap
      have kk := turn_trans k1 k2 (by omega)
      have HO2 := Lib.hid (own_base (base' := w.heap.size) ho2 z1)
      clear hap ho2 e1 e2 e3 hz hf
      go_wp2_with (at_builtin; refine Lib.wpList_append_run _ rfl _ _ _ _ rfl _ _ rfl rfl _ _ HAP.out ?_)
      go_wp2_with fail
      go_ret3
      exact ⟨_, by rw [HE2.out, HE3.out]; rfl, by rw [HE1.out]; exact ⟨HO2.out, Nat.le_refl _, fun g e => (HO2.out.lt g e).2⟩, kk⟩
    · have hz' : zeroL s = false := by simpa using hz
      have HZ : Hid (isWR l (m : Int) = false) := HWZ.out.trans hz'
      have HSH := Lib.hid (cor_short HZ.out hf)
      have HLG := Lib.hid (fun (h0 : (plcs l.length (locL (synL l (2 * m)))).length ≠ 0) h => cor_long HZ.out hf rfl h0 h)
      have HZE := Lib.hid (fun h0 h k hk he => @cor_zero l m HZ.out hf h0 h k hk he)
      rw [HSS.out] at HSH HLG HZE
      rw [hz']
      have HLC := Lib.hid (l8Locator_own _ s w1 o1.seen (by rw [HSL.out]; omega) (by rw [HSL.out]; omega))
      have HO1 := Lib.hid o1
      clear hz hz' hf o1
      obtain ⟨q, hq⟩ : ∃ q, q = l.length := ⟨_, rfl⟩
      have HQ : Hid (l.length = q) := hq.symm
      rw [← hq] at HSH HLG HZE HAPP hm2 hl24 hlc ⊢
      clear hq
      have hll := locL_length s
      have hln := locN_le s (s.length / 2)
      go_wp2_with fail
      refine HLC.out.mono ?_
      rintro e w2 ⟨v2, rfl, o2, k2⟩
      have z2 := k2.size
      have kk2 := turn_trans k1 k2 (by omega)
      obtain ⟨A2, c2, hv2⟩ := o2.seen.len
      rw [bys_length] at hv2
      subst hv2
      obtain ⟨d, hd⟩ : ∃ d, d = (locL s).length := ⟨_, rfl⟩
      have HD : Hid ((locL s).length = d) := hd.symm
      obtain ⟨dg, hdg⟩ : ∃ dg, dg = locN s (s.length / 2) := ⟨_, rfl⟩
      have HO2 := Lib.hid o2
      rw [← hd] at HO2 hll ⊢
      rw [← hdg] at hll hln HSH HLG HZE
      have HDG := Lib.hid hll
      have hdg4 : dg ≤ 4 := by rw [HSL.out] at hln; omega
      have HDS : Hid (dg + dg ≤ S) := by show _ ≤ _; rw [HSS2.out] at hln; omega
      have HK2 := Lib.hid kk2
      have HO1' := Lib.hid (HO1.out.keep k2 (by omega))
      clear hd hdg o2 k2 hll hln kk2
      go_wp2_with fail
      go_loopw [9, 38] (fun o i wr => ∃ k : Nat, k ≤ q ∧ i = .int .i64 k ∧ wr.ownsRow w2.heap.size 3 1 o (plcs k (locL s)).length (nint (plcs k (locL s))) ∧ TurnIn 0 0 w2 wr)
        (fun _ i _ => q - (intOf i).toNat)
      case atStart => exact ⟨0, Nat.zero_le _, rfl, World.ownsRow_nil _ _ _ _, TurnIn.refl _⟩
      case round =>
        obtain ⟨k, hk, rfl, ho, kr⟩ := hrel
        have zr := kr.size
        by_cases hlt : k < q
        · have hki : (k : Int) < (q : Int) := by omega
          have HP := Lib.hid (l1Pow3 k wr (by omega))
          have HI := Lib.hid (l1Inverse_u8 (powB 3 k) wr)
          have HVA := Lib.hid (l7At_own _ (locL s) (ginv (powB 3 k)) wr (HO2.out.seen.touch kr))
          have HO := Lib.hid ho
          obtain ⟨t, ht⟩ : ∃ t, t = (plcs k (locL s)).length := ⟨_, rfl⟩
          have htk : t ≤ 24 := by have := plcs_len k (locL s); omega
          have HTL : Hid ((plcs k (locL s)).length = t) := ht.symm
          rw [← ht] at HO
          clear ho ht
          go_wp2_with fail
          refine HP.out.mono ?_
          rintro e w' ⟨rfl, rfl⟩
          go_wp2_with fail
          refine HI.out.mono ?_
          rintro e w' ⟨rfl, rfl⟩
          go_wp2_with fail
          refine HVA.out.mono ?_
          rintro e w3 ⟨rfl, k3⟩
          have z3 := k3.size
          have kr2 := turn_trans kr k3 (by omega)
          have ho2 := owns_turn HO.out (fun g e => (HO.out.lt g e).2) k3 (by omega)
          obtain ⟨y, hy⟩ : ∃ y, y = hor (ginv (powB 3 k)) (locL s) := ⟨_, rfl⟩
          rw [← hy]
          by_cases hz : y = 0
          · have hzb : ((y.toNat : Int) == 0) = true := by rw [hz]; rfl
            have HPL : Hid (plcs (k + 1) (locL s) = plcs k (locL s) ++ [k]) := plcs_yes (by rw [← hy]; exact hz)
            have HO3 := Lib.hid (ho2.alloc (.cells #[.int .i64 (k : Int)] 3))
            have KA := Lib.hid (turn_trans kr2 (turn_alloc w3 (.cells #[.int .i64 (k : Int)] 3)) (by omega))
            clear hz hy ho2 HO k3
            go_wp2_with (at_builtin; refine wpList_append1 rfl _ _ _ rfl w2.heap.size 3 _ _ Tryz.underlying43 infoInt rfl _ t _ rfl HO3.out w3.heap.size (.int .i64 (k : Int)) rfl ?c1 rfl ?c2 ?c3 ?c4 ?_)
            case c1 => simp
            case c2 => omega
            case c3 => omega
            case c4 => simp; omega
            intro v' w4 hown4 hg4 _
            have k4 : TurnIn 0 0 w2 w4 := turn_trans' KA.out hg4 (fun g e => (HO3.out.lt g e).1)
            have hon : w4.ownsRow w2.heap.size 3 1 v' (plcs (k + 1) (locL s)).length (nint (plcs (k + 1) (locL s))) := by
              rw [HPL.out, nint_append, List.length_append, HTL.out]; exact hown4
            clear hown4 hg4 KA HO3
            go_wp2_with fail
            go_roundw
            case rel => exact ⟨k + 1, by omega, by go_num, hon, k4⟩
            case measure => simp [intOf]; omega
          · have hzb : ((y.toNat : Int) == 0) = false := by
              have : y.toNat ≠ 0 := fun e => hz (UInt8.toNat_inj.1 e)
              rw [beq_eq_false_iff_ne]; omega
            have hon : w3.ownsRow w2.heap.size 3 1 u9 (plcs (k + 1) (locL s)).length (nint (plcs (k + 1) (locL s))) := by
              rw [plcs_not (by rw [← hy]; exact hz), HTL.out]; exact ho2
            clear hz hy ho2 HO k3
            go_wp2_with fail
            go_roundw
            case rel => exact ⟨k + 1, by omega, by go_num, hon, kr2⟩
            case measure => simp [intOf]; omega
        · obtain rfl : k = q := by omega
          have hki : ¬ (k : Int) < (k : Int) := by omega
          have kk := turn_trans HK2.out kr (by omega)
          obtain ⟨A9, c9, h9⟩ := (Seen.of_own ho).len
          rw [nint_length] at h9
          subst h9
          obtain ⟨P, hP⟩ : ∃ P, P = plcs k (locL s) := ⟨_, rfl⟩
          have HPI : Hid ((∀ i j, i < j → j < P.length → P.getD i 0 < P.getD j 0) ∧ ∀ j, j < P.length → P.getD j 0 < k) := by
            show _ ∧ _
            rw [hP]; exact ⟨plcs_lt, fun j hj => plcs_at hj⟩
          have htk : P.length ≤ 24 := by rw [hP]; exact Nat.le_trans (plcs_len _ _) hl24
          rw [← hP] at ho HSH HLG HZE ⊢
          clear hP
          obtain ⟨t, ht⟩ : ∃ t, t = P.length := ⟨_, rfl⟩
          have HTL : Hid (P.length = t) := ht.symm
          rw [← ht] at ho HSH HLG HZE htk ⊢
          clear ht
          have HO := Lib.hid ho
          have HO1r := Lib.hid (HO1'.out.keep kr (by omega))
          clear ho
          have hwd : IntKind.i64.wrap ((d : Int) - 1) = (dg : Int) := by have := HDG.out; rw [IntWalk.i64_in _ (by omega)]; omega
          by_cases ht0 : t = 0
          · obtain ⟨e1, e2, e3⟩ := HSH.out (.inl ht0)
            have HE1 := Lib.hid e1
            have HE2 := Lib.hid e2
            have HE3 := Lib.hid e3
            have hb0 : ((t : Int) == 0) = true := by rw [ht0]; rfl
            clear e1 e2 e3 ht0 HSH HLG HZE
            go_wp2_with fail
            go_ret3
            exact ⟨.slice none 0 0, by rw [HE2.out, HE3.out]; rfl, by rw [HE1.out]; exact OwnBytes.nil _ _ _ |>.wider (by have := kk.size; omega) (by first | exact Nat.le_refl _ | omega) (Nat.le_refl _), kk⟩
          have hb0 : ((t : Int) == 0) = false := by simp; omega
          by_cases hte : t = dg
          · have HL2 := Lib.hid (HLG.out ht0 hte)
            have HZ2 := Lib.hid (fun j hj he => HZE.out ht0 hte j hj he)
            have hne : ((t : Int) != (dg : Int)) = false := by rw [hte]; simp
            have HTD : Hid (t + t ≤ S) := by show _ ≤ _; have := HDS.out; omega
            have ht4 : t ≤ 4 := by omega
            have ht1 : 1 ≤ t := by omega
            clear hte ht0 HSH HLG HZE
            go_wp2_with fail
            generalize wr = w9 at *
            obtain ⟨A9', cc9', e9, _, hm9, hx9⟩ := (Seen.of_own HO.out)
            rw [nint_length, HTL.out] at e9 hx9
            simp only [Value.slice.injEq, true_and] at e9
            obtain ⟨rfl, rfl⟩ := e9
            obtain ⟨b9, off9, rfl, hb9, hcell9⟩ := hx9 ht1
            have HX9 : Hid (∀ j, j < t → w9.cell? ⟨b9, off9 + j, none⟩ = some (.int .i64 ((P.getD j 0 : Nat) : Int))) := fun j hj => hcell9 j _ (nint_get P j (by rw [HTL.out]; exact hj))
            have HPB : Hid (∀ j, j < t → P.getD j 0 < k) := fun j hj => HPI.out.2 j (by rw [HTL.out]; exact hj)
            unfold maxLen at hm9
            have cbM := alloc_cell w9 (.slice none 0 0) 70
            have fbM : (w9.alloc (.cells #[.slice none 0 0] 70)).frozen? ⟨w9.heap.size, 0, none⟩ = false := by simp
            have kaM := turn_alloc w9 (.cells #[.slice none 0 0] 70)
            have zaM := World.size_alloc w9 (.cells #[.slice none 0 0] 70)
            have hM0 : OwnM 5 22 (w9.alloc (.cells #[.slice none 0 0] 70)) (w9.heap.size + 1) (w9.alloc (.cells #[.slice none 0 0] 70)).heap.size (.slice none 0 0) (mkM 0 t (plcF (corX P))) [] := (OwnM.nil _ _ _ _)
            clear hx9 hcell9
            generalize hWM : w9.alloc (.cells #[.slice none 0 0] 70) = WM at *
            clear hWM
            obtain ⟨BM, hBM⟩ : ∃ BM, BM = w9.heap.size := ⟨_, rfl⟩
            rw [← hBM] at cbM fbM hM0 zaM ⊢
            have HKK := Lib.hid kk
            have HBM := Lib.hid hBM
            have hb9M : b9 < BM := by omega
            clear hBM kk
            go_loopw [13] (fun i wr => ∃ (j : Nat) (o : Value) (vs : List Value), j ≤ t ∧ i = .int .i64 ((j : Int) + 1) ∧ OwnM 5 22 wr (BM + 1) wr.heap.size o (mkM j t (plcF (corX P))) vs ∧ wr.cell? ⟨BM, 0, none⟩ = some o ∧ wr.frozen? ⟨BM, 0, none⟩ = false ∧ Below BM w9 wr ∧ BM + 1 ≤ wr.heap.size)
              (fun i _ => t + 1 - (intOf i).toNat)
            case atStart => exact ⟨0, .slice none 0 0, [], Nat.zero_le _, rfl, hM0, cbM, fbM, by rw [HBM.out]; exact kaM.to_below, by omega⟩
            case round =>
              obtain ⟨j, o, vs, hj, rfl, hM, hc2, hf2, hbx, hzx⟩ := hrel
              clear hM0 cbM fbM kaM zaM
              by_cases hjt : j < t
              · have hji : (j : Int) + 1 ≤ (t : Int) := by omega
                have HM := Lib.hid hM
                have hrow : wr.ownsRow (BM + 1) 22 1 o j vs := by simpa using hM.row
                have HR := Lib.hid hrow
                clear hM hrow
                have hti : (0 : Int) < (t : Int) := by omega
                generalize wr = wz at *
                go_wp2_with fail
                go_loopw [14, 71] (fun r i wy => ∃ p : Nat, p ≤ t ∧ i = .int .i64 p ∧ wy.ownsRow wz.heap.size 5 1 r p (bys (mkRow p fun x => powB (powB 3 (j + 1)) (P.getD x 0))) ∧ TurnIn 0 0 wz wy)
                  (fun _ i _ => t - (intOf i).toNat)
                case atStart => exact ⟨0, Nat.zero_le _, rfl, World.ownsRow_nil _ _ _ _, TurnIn.refl _⟩
                case round =>
                  obtain ⟨p, hp, rfl, hor, ky⟩ := hrel
                  have zy := ky.size
                  by_cases hpt : p < t
                  · have hpi : (p : Int) < (t : Int) := by omega
                    have hb9' : b9 < w9.heap.size := hb9
                    have hcp := cell_turn ky ((hbx.cell (p := ⟨b9, off9 + p, none⟩) hb9M).trans (HX9.out p hpt)) (show b9 < wz.heap.size by omega)
                    have hpb := HPB.out p hpt
                    obtain ⟨a, ha⟩ : ∃ a, a = P.getD p 0 := ⟨_, rfl⟩
                    have HAA : Hid (P.getD p 0 = a) := ha.symm
                    rw [← ha] at hcp hpb
                    have HP1 : Hid (Calls Tryz.prog 48 #[.int .u8 3, .int .i64 ((j : Int) + 1)] wr fun e w' => e = .returned (.int .u8 ((powB 3 (j + 1)).toNat : Int)) ∧ wr = w') := l1Pow3 (j + 1) wr (by omega)
                    have HP2 := Lib.hid (l1Pow_u8 (powB 3 (j + 1)) a wr (by omega))
                    obtain ⟨y, hy⟩ : ∃ y, y = powB (powB 3 (j + 1)) a := ⟨_, rfl⟩
                    have HY : Hid (powB (powB 3 (j + 1)) a = y) := hy.symm
                    have HORA := Lib.hid (hor.alloc (.cells #[.int .u8 (y.toNat : Int)] 5))
                    have KYA := Lib.hid (turn_trans ky (turn_alloc wr (.cells #[.int .u8 (y.toNat : Int)] 5)) (by omega))
                    clear hor ha hy
                    go_wp2_with fail
                    refine HP1.out.mono ?_
                    rintro e w' ⟨rfl, rfl⟩
                    go_wp2_with fail
                    refine HP2.out.mono ?_
                    rintro e w' ⟨rfl, rfl⟩
                    rw [HY.out]
                    go_wp2_with (at_builtin; refine wpList_append1 rfl _ _ _ rfl wz.heap.size 5 _ _ Tryz.underlying22 infoByte rfl _ p _ rfl HORA.out wr.heap.size (.int .u8 (y.toNat : Int)) rfl ?c1 rfl ?c2 ?c3 ?c4 ?_)
                    case c1 => simp
                    case c2 => omega
                    case c3 => omega
                    case c4 => simp; omega
                    intro v' w5 hown5 hg5 _
                    have k5 : TurnIn 0 0 wz w5 := turn_trans' KYA.out hg5 (fun g e => (HORA.out.lt g e).1)
                    have hon : w5.ownsRow wz.heap.size 5 1 v' (p + 1) (bys (mkRow (p + 1) fun x => powB (powB 3 (j + 1)) (P.getD x 0))) := by
                      rw [mkRow_succ, bys_append, HAA.out, HY.out]; exact hown5
                    clear hown5 hg5
                    go_wp2_with fail
                    go_roundw
                    case rel => exact ⟨p + 1, by omega, by go_num, hon, k5⟩
                    case measure => simp [intOf]; omega
                  · obtain rfl : p = t := by omega
                    have hpi : ¬ (p : Int) < (p : Int) := by omega
                    rw [cor_row] at hor
                    obtain ⟨C1, m1, d1, hC⟩ := own_isSlice hor
                    subst hC
                    obtain ⟨B0, n0, co, hB0⟩ := own_isSlice HR.out
                    subst hB0
                    have ka := turn_alloc wr (.cells #[.slice C1 m1 d1] 22)
                    have k2 : TurnIn 0 0 wz (wr.alloc (.cells #[.slice C1 m1 d1] 22)) := turn_trans ky ka (by omega)
                    have hcx := cell_turn k2 hc2 (by omega)
                    have hcy := cell_turn ky hc2 (by omega)
                    have hob : ∀ g, (Value.slice B0 n0 co).ownBlock = some g → BM + 1 ≤ g := fun g e => (HR.out.lt g e).1
                    have hne2 : (Value.slice B0 n0 co).ownBlock ≠ some BM := fun e => by have := hob _ e; omega
                    have HR2 := Lib.hid (owns_turn HR.out (fun g e => (HR.out.lt g e).2) k2 (by omega))
                    have hR : OwnBytes 5 (wr.alloc (.cells #[.slice C1 m1 d1] 22)) wz.heap.size (wr.heap.size + 1) (.slice C1 m1 d1) (mkRow p (plcF (corX P) j)) := by
                      refine ⟨?_, by simp, fun g e => by have := (hor.lt g e).2; omega⟩
                      rw [mkRow_length]
                      exact hor.alloc _
                    have HRB := Lib.hid hR
                    have HK2 := Lib.hid k2
                    clear hor hR ka
                    go_wp2_with (at_builtin; refine wpList_append1 rfl _ _ _ rfl (BM + 1) 22 _ _ Tryz.underlying68 infoRowB rfl _ j vs rfl HR2.out wr.heap.size (.slice C1 m1 d1) rfl ?c1 rfl ?c2 ?c3 ?c4 ?_)
                    case c2 => omega
                    case c4 => omega
                    intro v' w5 hown5 hg5 hv5
                    obtain ⟨A', n', cp', hv'⟩ := own_isSlice hown5
                    subst hv'
                    have hc2' := (cell_past HK2.out hg5 hne2 (by omega) 0).trans hc2
                    have hf2' := (frozen_past HK2.out hg5 hne2 (by omega) 0).trans hf2
                    have hM5 := (((HM.out.push HK2.out HRB.out (Nat.le_refl _) (by omega) (by simpa using hown5) hg5 (by rw [World.size_alloc]; exact hv5)).keep (turn_setCell w5 BM 0 (.slice A' n' cp')) (by omega)).congr (mkM_succ j p (plcF (corX P))).symm)
                    have hw1 : wz.heap.size ≤ w5.heap.size := by have := hg5.size; have := HK2.out.size; omega
                    have hb5 : Below BM w9 (w5.setCell ⟨BM, 0, none⟩ (.slice A' n' cp')) := Below.setCell (TurnIn.base (TurnIn.of_grown (lo := BM) (hi := w5.heap.size) hg5 (fun g e => ⟨by have := hob g e; omega, by have := (HM.out.out g e); omega⟩)) (HK2.out.base hbx (by omega) (by omega)) (by have := HK2.out.size; omega) (by omega)) (Nat.le_refl _) _
                    clear hown5 hg5 hv5 hob hcx hcy hbx hc2 hf2
                    go_wp2_with fail
                    go_roundw
                    case rel => exact ⟨j + 1, .slice A' n' cp', vs ++ [.slice C1 m1 d1], by omega, by go_num, by simpa using hM5, World.cell?_setCell_same _ _ _ hc2', by simp [hf2'], hb5, by simp; omega⟩
                    case measure => simp [intOf]; omega
              · obtain rfl : j = t := by omega
                have hji : ¬ (j : Int) + 1 ≤ (j : Int) := by omega
                have HM := Lib.hid hM
                obtain ⟨B0, n0, co, hB0⟩ := hM.isSlice
                subst hB0
                have kkx : TurnIn 0 0 w wr := TurnIn.of_below (turn_of5 HKK.out HKK.out (by rw [← HBM.out]; exact hbx))
                have HKX := Lib.hid kkx
                have HEST : Hid (decide ((est (plcF (corX P)) j j).2 = j) = true) := by
                  have := (chg_cor (s := s) (P := P) (n := k) (by have := HPI.out.1; exact this) (by have := HPI.out.2; exact this) hl24 (by rw [HTL.out]; exact ht1) (by rw [HTL.out, HSS2.out]; have := HTD.out; omega)).1
                  unfold chgOk at this
                  rw [Bool.and_eq_true, HTL.out] at this
                  exact this.2
                clear hM kkx
                go_wp2_with fail
                refine (l2Inverse_own j (plcF (corX P)) _ wr HM.out.seen ht1 (by omega)).mono ?_
                rintro e w5 ⟨v5, vs5, rfl, o5, k5⟩
                rw [HEST.out]
                obtain ⟨A5, n5, c5, h5⟩ := o5.isSlice
                subst h5
                have z5 := k5.size
                have ka5 := turn_alloc w5 (.cells #[.slice A5 n5 c5] 70)
                have za5 := World.size_alloc w5 (.cells #[.slice A5 n5 c5] 70)
                have cb5 := alloc_cell w5 (.slice A5 n5 c5) 70
                have HO5 := Lib.hid (o5.keep ka5 (by omega)).seen
                have kk5 := turn_trans (turn_trans HKX.out k5 (by omega)) ka5 (by omega)
                have HSO5 : Hid (Seen (w5.alloc (.cells #[.slice A5 n5 c5] 70)) (.slice (some ⟨g1, 0, none⟩) S cp1) (bys s)) := Lib.hid (((HO1r.out.seen.below (by rw [← HBM.out]; exact hbx)).touch k5).touch ka5)
                have HX95 : Hid (∀ p, p < j → (w5.alloc (.cells #[.slice A5 n5 c5] 70)).cell? ⟨b9, off9 + p, none⟩ = some (.int .i64 ((P.getD p 0 : Nat) : Int))) := fun p hp => cell_turn (turn_trans k5 ka5 (by omega)) ((hbx.cell (p := ⟨b9, off9 + p, none⟩) hb9M).trans (HX9.out p hp)) (by omega)
                obtain ⟨cpo, w7, hap, ho7, k7, hcpo1, hcpo2, hlt7⟩ := HAPP.out _ kk5
                rw [World.size_alloc] at hap ho7 hlt7
                have HAP := Lib.hid hap
                have cb7 := cell_turn k7 cb5 (by rw [za5]; omega)
                have HO7 := Lib.hid ho7
                have kk7 := turn_trans kk5 k7 (by omega)
                have HS7 := Lib.hid (HSO5.out.touch k7)
                have HM7 := Lib.hid (HO5.out.touch k7)
                have HX97 : Hid (∀ p, p < j → w7.cell? ⟨b9, off9 + p, none⟩ = some (.int .i64 ((P.getD p 0 : Nat) : Int))) := fun p hp => cell_turn k7 (HX95.out p hp) (by rw [za5]; omega)
                have z7 := k7.size
                rw [za5] at z7
                have hb5lt : w5.heap.size < w7.heap.size := by omega
                have hb97 : b9 < w5.heap.size := by omega
                clear hap ho7 k7 cb5 HSO5 HO5 HX95 o5 k5 ka5 kk5 hbx hc2 hf2 za5
                go_wp2_with (at_builtin; refine Lib.wpList_append_run _ rfl _ _ _ _ rfl _ _ rfl rfl _ _ HAP.out ?_)
                go_wp2_with fail
                have hjS := HTD.out
                have hsl1 := sliceH g1 0 S cp1 j (by omega) (by omega)
                have hsl2 := sliceHb g1 0 S cp1 j (by omega) (by omega)
                have HTK : Hid ((s.take j).length = j) := by show _ = _; rw [List.length_take, HSS2.out]; omega
                have HSUB : Hid (Seen w7 (.slice (some ⟨g1, 0, none⟩) j cp1) (bys (s.take j))) := by
                  show Seen _ _ _
                  have h := HS7.out
                  rw [← HSS2.out] at h
                  obtain ⟨b', off', e, hr⟩ := sub_row h (a := 0) (m := j) (by omega) (by rw [HSS2.out]; omega)
                  simp only [Option.some.injEq, Addr.mk.injEq, and_true] at e
                  obtain ⟨rfl, rfl⟩ := e
                  simpa using hr
                have HAPL : Hid (aplL j j (bst (plcF (corX P)) idF j j) (s.take j) = mkRow j (corE s P)) := by
                  show _ = _
                  have h := apl_cor (s := s) (P := P) (by rw [HTL.out, HSS2.out]; omega)
                  rwa [HTL.out] at h
                have HLP := Lib.hid (l2Apply_own j j (bst (plcF (corX P)) idF j j) (.slice A5 n5 c5) (.slice (some ⟨g1, 0, none⟩) j cp1) (s.take j) w7.drew (show SeenM w7.drew _ _ from HM7.out) (show Seen w7.drew _ _ from HSUB.out) HTK.out (by omega))
                clear HS7 HM7
                go_region_held3 (fun W => W.cell? ⟨w5.heap.size, 0, none⟩ = some (.slice A5 n5 c5))
                  (first | exact cb7 | exact d1)
                  ((go_at_call 50; refine HLP.out.mono ?_; rintro e w8 ⟨v8, rfl, o8, k8⟩; have d1 := cell_turn k8 (show w7.drew.cell? _ = _ from cb7) (show _ < w7.heap.size by omega); rw [HAPL.out] at o8; obtain ⟨g8, cp8, rfl, hg81, hg82, hcp81, hcp82⟩ := o8.slice (by rw [mkRow_length]; omega); rw [mkRow_length] at o8 hcp81; simp only [mkRow_length]))
                unfold maxLen at hcp82
                have hg81' : w7.heap.size ≤ g8 := hg81
                have z8 : w7.heap.size ≤ w8.heap.size := k8.size
                have kk8 : TurnIn 0 0 w w8 := turn_trans (turn_drewA kk7) k8 (by omega)
                have k78 : TurnIn 0 0 w7 w8 := ⟨k8.os, k8.tape, k8.output, k8.size, k8.block⟩
                have HO8 := Lib.hid (owns_turn HO7.out (fun g e => (HO7.out.lt g e).2) k78 (by omega))
                have HX98 : Hid (∀ p, p < j → w8.cell? ⟨b9, off9 + p, none⟩ = some (.int .i64 ((P.getD p 0 : Nat) : Int))) := fun p hp => cell_turn k78 (HX97.out p hp) (by omega)
                have HX88 : Hid (∀ p, p < j → w8.cell? ⟨g8, p, none⟩ = some (.int .u8 ((corE s P p).toNat : Int))) := fun p hp => by
                  have h := o8.cellAt (k := p) (by rw [mkRow_length]; exact hp)
                  rwa [mkRow_getD _ _ _ hp] at h
                have HPL : Hid (∀ p, (putE l P (corE s P) p).length = k) := fun p => by rw [putE_length]; exact HQ.out
                obtain ⟨go', hgo⟩ : ∃ go', go' = w5.heap.size + 1 + 1 := ⟨_, rfl⟩
                rw [← hgo] at HO8 hlt7 ⊢
                have hgo1 : w5.heap.size + 1 ≤ go' := by omega
                have hgo8 : go' < w8.heap.size := by omega
                have hg8o : g8 ≠ go' := by omega
                have hb9o : b9 < w5.heap.size + 1 := by omega
                clear o8 k8 cb7 d1 hsl1 hsl2 HLP k78 hgo
                go_wp2_with fail
                go_loopw [105] (fun i wr => ∃ p : Nat, p ≤ j ∧ i = .int .i64 p ∧ wr.ownsRow (w5.heap.size + 1) 5 1 (.slice (some ⟨go', 0, none⟩) k cpo) k (bys (putE l P (corE s P) p)) ∧ TurnIn go' (go' + 1) w8 wr)
                  (fun i _ => j - (intOf i).toNat)
                case atStart => exact ⟨0, Nat.zero_le _, rfl, HO8.out, ⟨rfl, rfl, rfl, Nat.le_refl _, fun _ _ _ => rfl⟩⟩
                case round =>
                  obtain ⟨p, hp, rfl, ho, kp⟩ := hrel
                  have zp := kp.size
                  by_cases hpj : p < j
                  · have hpi : (p : Int) < (j : Int) := by omega
                    have hcp := (World.cell?_of_block (kp.block b9 (by omega) (by omega))).trans (HX98.out p hpj)
                    have hce := (World.cell?_of_block (kp.block g8 (by omega) (by omega))).trans (HX88.out p hpj)
                    have hpb := HPB.out p hpj
                    obtain ⟨a, ha⟩ : ∃ a, a = P.getD p 0 := ⟨_, rfl⟩
                    obtain ⟨y, hy⟩ : ∃ y, y = corE s P p := ⟨_, rfl⟩
                    rw [← ha] at hcp hpb
                    rw [← hy] at hce
                    by_cases hy0 : y = 0
                    · obtain ⟨e1, e2, e3⟩ := HZ2.out p hpj (by rw [← hy]; exact hy0)
                      have HE1 := Lib.hid e1
                      have HE2 := Lib.hid e2
                      have HE3 := Lib.hid e3
                      have hyb : ((y.toNat : Int) == 0) = true := by rw [hy0]; rfl
                      have kkp : TurnIn 0 0 w wr := TurnIn.of_below (kp.base kk8.to_below (by have := kk8.size; omega) (.inl (by have := HKX.out.size; omega)))
                      clear hy0 hy ha e1 e2 e3 ho
                      go_wp2_with fail
                      go_ret3
                      exact ⟨.slice none 0 0, by rw [HE2.out, HE3.out]; rfl, by rw [HE1.out]; exact (OwnBytes.nil _ _ _).wider (by have := kkp.size; omega) (Nat.le_refl _) (Nat.le_refl _), kkp⟩
                    · have hyb : ((y.toNat : Int) == 0) = false := by
                        have : y.toNat ≠ 0 := fun e => hy0 (UInt8.toNat_inj.1 e)
                        rw [beq_eq_false_iff_ne]; omega
                      have hcx := own_cell8 ho (HPL.out p).symm (k := a) hpb
                      have hfr := ho.frozenAt a
                      obtain ⟨x, hx⟩ : ∃ x, x = (putE l P (corE s P) p).getD a 0 := ⟨_, rfl⟩
                      rw [← hx] at hcx
                      have hst := own_set8 ho a (x ^^^ y)
                      have hxor := xor_u8 x y
                      have HPU : Hid ((putE l P (corE s P) p).set a (x ^^^ y) = putE l P (corE s P) (p + 1)) := by show _ = _; rw [putE, ← ha, ← hx, ← hy]
                      rw [HPU.out] at hst
                      have HST := Lib.hid hst
                      have HKS := Lib.hid (turn_trans kp (turn_setCell wr go' a (.int .u8 ((x ^^^ y).toNat : Int))) (by omega))
                      have hai : (a : Int) < (k : Int) := by omega
                      clear hst ho hx hy ha hy0
                      go_wp2_with fail
                      go_roundw
                      case rel => exact ⟨p + 1, by omega, by go_num, HST.out, HKS.out⟩
                      case measure => simp [intOf]; omega
                  · obtain rfl : p = j := by omega
                    have hpi : ¬ (p : Int) < (p : Int) := by omega
                    have kkp : TurnIn 0 0 w wr := TurnIn.of_below (kp.base kk8.to_below (by have := kk8.size; omega) (.inl (by have := HKX.out.size; omega)))
                    have HO := Lib.hid ho
                    have HSY2 := Lib.hid (l8Syndromes_own (.slice (some ⟨go', 0, none⟩) k cpo) (putE l P (corE s P) p) m wr (Seen.of_own ho) hm1 hm4)
                    have hww : w.heap.size ≤ w5.heap.size + 1 := by have := HKX.out.size; omega
                    clear ho
                    go_wp2_with fail
                    refine HSY2.out.mono ?_
                    rintro e x1 ⟨vx, rfl, ox, kx⟩
                    have HZ3 := Lib.hid (l8Zero_any vx _ x1 ox.seen)
                    have HOX := Lib.hid (own_below HO.out kx.to_below)
                    have kkx := turn_trans kkp kx (by omega)
                    clear ox kx
                    go_wp2_with fail
                    refine HZ3.out.mono ?_
                    rintro e w' ⟨rfl, rfl⟩
                    by_cases hzz : zeroL (synL (putE l P (corE s P) p) (2 * m)) = true
                    · obtain ⟨e1, e2, e3⟩ := HL2.out.1 hzz
                      have HE1 := Lib.hid e1
                      have HE2 := Lib.hid e2
                      have HE3 := Lib.hid e3
                      rw [hzz]
                      clear e1 e2 e3 hzz
                      go_wp2_with fail
                      go_ret3
                      exact ⟨_, by rw [HE2.out, HE3.out]; rfl, by rw [HE1.out]; exact ⟨by rw [HPL.out]; exact own_base HOX.out hww, Nat.le_refl _, fun g e => (HOX.out.lt g e).2⟩, kkx⟩
                    · have hzf : zeroL (synL (putE l P (corE s P) p) (2 * m)) = false := by simpa using hzz
                      obtain ⟨e1, e2, e3⟩ := HL2.out.2 hzf
                      have HE1 := Lib.hid e1
                      have HE2 := Lib.hid e2
                      have HE3 := Lib.hid e3
                      rw [hzf]
                      clear e1 e2 e3 hzz hzf
                      go_wp2_with fail
                      go_ret3
                      exact ⟨.slice none 0 0, by rw [HE2.out, HE3.out]; rfl, by rw [HE1.out]; exact (OwnBytes.nil _ _ _).wider (by have := kkx.size; omega) (Nat.le_refl _) (Nat.le_refl _), kkx⟩
          · obtain ⟨e1, e2, e3⟩ := HSH.out (.inr hte)
            have HE1 := Lib.hid e1
            have HE2 := Lib.hid e2
            have HE3 := Lib.hid e3
            have hne : ((t : Int) != (dg : Int)) = true := by rw [bne_iff_ne]; omega
            clear e1 e2 e3 ht0 hte HSH HLG HZE
            go_wp2_with fail
            go_ret3
            exact ⟨.slice none 0 0, by rw [HE2.out, HE3.out]; rfl, by rw [HE1.out]; exact OwnBytes.nil _ _ _ |>.wider (by have := kk.size; omega) (by first | exact Nat.le_refl _ | omega) (Nat.le_refl _), kk⟩
  · have hf' : fitW l t = false := by simpa using hf
    obtain ⟨e1, e2, e3⟩ := cor_unfit hf'
    have HE1 := Lib.hid e1
    have HE2 := Lib.hid e2
    have HE3 := Lib.hid e3
    have HF := Lib.hid hf'
    clear e1 e2 e3 hf hf'
    generalize l.length = q at *
    go_enter Tryz.func15, Tryz.ntmps15
    go_wp2_with fail
    refine HFT.out.mono ?_
    rintro e w' ⟨rfl, rfl⟩
    rw [HF.out]
    go_wp2_with fail
    go_ret3
    exact ⟨.slice none 0 0, by rw [HE2.out, HE3.out]; rfl, by rw [HE1.out]; exact OwnBytes.nil _ _ _, TurnIn.refl _⟩

end Go.Proofs.YtblfobbeojdihaaGreatDoor

/- Chapter 8's mathematics for FnCorrected: few errors corrected, what CorrectWord answers is near. -/
namespace G294
open Go
theorem dist_self (a : List UInt8) : ∀ k, distN a a k = 0
  | 0 => rfl
  | k + 1 => by rw [distN_same rfl, dist_self a k]
theorem dist_low {a b : List UInt8} {p : Nat} {v : UInt8} : ∀ k, k ≤ p → distN (a.set p v) b k = distN a b k
  | 0, _ => rfl
  | k + 1, h => by
    have e : (a.set p v).getD k 0 = a.getD k 0 := by simp [List.getD, List.getElem?_set, show ¬ p = k by omega]
    by_cases hz : a.getD k 0 = b.getD k 0
    · rw [distN_same (by rw [e]; exact hz), distN_same hz, dist_low k (by omega)]
    · rw [distN_more (by rw [e]; exact hz), distN_more hz, dist_low k (by omega)]
/-- a byte more that differs -/
theorem dist_set {a b : List UInt8} {p : Nat} {v : UInt8} (hp : p < a.length) (he : a.getD p 0 = b.getD p 0) (hv : v ≠ b.getD p 0) : ∀ k, p < k → distN (a.set p v) b k = distN a b k + 1
  | 0, h => by omega
  | k + 1, h => by
    by_cases hk : k = p
    · subst hk
      have e : (a.set k v).getD k 0 = v := by simp [List.getD, hp]
      rw [distN_more (by rw [e]; exact hv), distN_same he, dist_low k (Nat.le_refl _)]
    · have e : (a.set p v).getD k 0 = a.getD k 0 := by simp [List.getD, List.getElem?_set, show ¬ p = k by omega]
      by_cases hz : a.getD k 0 = b.getD k 0
      · rw [distN_same (by rw [e]; exact hz), distN_same hz, dist_set hp he hv k (by omega)]
      · rw [distN_more (by rw [e]; exact hz), distN_more hz, dist_set hp he hv k (by omega)]
/-- the word of data -/
theorem enc_word {l : List UInt8} {t : Int} (h : encOk8 l t = true) : ∃ m : Nat, t = m ∧ 1 ≤ m ∧ m ≤ 4 ∧ encR8 l t = encL8 l (2 * m) ∧ (encR8 l t).length = 2 * m + l.length ∧ (encR8 l t).length ≤ 24 ∧ 1 ≤ l.length ∧ isWR (encR8 l t) t = true ∧ dataR (encR8 l t) t = l ∧ errT t = true ∧ (genR t).length = 2 * m + 1 ∧ (∀ i, i < 2 * m → hor (powB 3 (i + 1)) (encR8 l t) = 0) := by
  have hx := h
  simp only [encOk8, Bool.and_eq_true, decide_eq_true_eq] at hx
  obtain ⟨he, h1, h2⟩ := hx
  have he' := he
  simp only [errT, decide_eq_true_eq] at he'
  obtain ⟨m, rfl⟩ : ∃ m : Nat, t = m := ⟨t.toNat, by omega⟩
  have e : encR8 l (m : Int) = encL8 l (2 * m) := by unfold encR8; rw [if_pos h]; simp
  have el : (encR8 l (m : Int)).length = 2 * m + l.length := by rw [e]; simp [encL8]
  have hr : ∀ i, i < 2 * m → hor (powB 3 (i + 1)) (encR8 l (m : Int)) = 0 := fun i hi => by rw [e]; exact enc_root hi h1
  have hf : fitW (encR8 l (m : Int)) (m : Int) = true := by
    unfold fitW; rw [he, Bool.true_and, decide_eq_true_eq, el]; omega
  have hw : isWR (encR8 l (m : Int)) (m : Int) = true := by
    unfold isWR; rw [hf, Bool.true_and, zeroL_iff]
    intro i hi
    have hi' : i < 2 * m := by simpa using hi
    rw [Int.toNat_natCast, synL_getD _ _ _ hi', hr i hi']
  refine ⟨m, rfl, by omega, by omega, e, el, by omega, h1, hw, ?_, he, ?_, hr⟩
  · unfold dataR; rw [if_pos hw, Int.toNat_natCast, e]
    unfold encL8
    exact List.drop_left' (by simp)
  · unfold genR; rw [if_pos he]; simp
/-- few wrong bytes are corrected -/
theorem enc_corrected {x u : List UInt8} {m : Nat} (h1 : 1 ≤ m) (h4 : m ≤ 4) (hl : x.length = u.length) (h24 : u.length ≤ 24) (hm : 2 * m + 1 ≤ u.length) (hu : ∀ i, i < 2 * m → hor (powB 3 (i + 1)) u = 0) (hd : distN x u x.length ≤ m) :
    corR x (m : Int) = u ∧ corN x (m : Int) = (distN x u x.length : Nat) ∧ corOk x (m : Int) = true := by
  have hf : fitW x (m : Int) = true := by
    simp only [fitW, errT, Bool.and_eq_true, decide_eq_true_eq]; omega
  have e : corO x (m : Int) = some (u, distN x u x.length) := by
    unfold corO; rw [if_pos hf, Int.toNat_natCast]; exact corrected hl (by omega) hu hd
  unfold corR corN corOk
  rw [e]; exact ⟨rfl, rfl, rfl⟩
theorem put_dif {w : List UInt8} {L : List UInt8} {E : Nat → UInt8} (hE : ∀ j, j < (plcs w.length L).length → E j ≠ 0) :
    distN w (putE w (plcs w.length L) E (plcs w.length L).length) w.length = (plcs w.length L).length := by
  rw [dist_nz]
  obtain ⟨h1, h2⟩ := putE_getD (w := w) (P := plcs w.length L) (E := E) plcs_lt (fun j hj => plcs_at hj) _ (Nat.le_refl _)
  have e : nzK w.length (difF w (putE w (plcs w.length L) E (plcs w.length L).length)) = plcs w.length L := by
    unfold nzK
    show _ = (List.range w.length).filter _
    refine List.filter_congr fun p hp => ?_
    have hpl : p < w.length := by simpa using hp
    by_cases hm : p ∈ plcs w.length L
    · obtain ⟨j, hj, hjp⟩ := List.getElem_of_mem hm
      have hjd : (plcs w.length L).getD j 0 = p := by simp [List.getD, hj, hjp]
      have hd : difF w (putE w (plcs w.length L) E (plcs w.length L).length) p = E j := by
        unfold difF
        rw [← hjd, h1 j hj, ← UInt8.xor_assoc, UInt8.xor_self, UInt8.zero_xor]
      rw [hd, (plcs_mem.1 hm).2]
      simpa using hE j hj
    · have hd : difF w (putE w (plcs w.length L) E (plcs w.length L).length) p = 0 := by
        unfold difF
        rw [h2 p (fun j hj e => hm (by rw [← e]; rw [show (plcs w.length L).getD j 0 = (plcs w.length L)[j] by simp [List.getD, hj]]; exact List.getElem_mem hj)), UInt8.xor_self]
      have hn : hor (ginv (powB 3 p)) L ≠ 0 := fun h => hm (plcs_mem.2 ⟨hpl, h⟩)
      rw [hd]
      simpa using hn
  rw [e]
/-- what CorrectWord answers is a code word near by -/
theorem cor_near {u : List UInt8} {t : Int} (h : corOk u t = true) : ∃ (m n : Nat), t = m ∧ m ≤ 4 ∧ n ≤ m ∧ corN u t = n ∧ isWR (corR u t) t = true ∧ fitW (corR u t) t = true ∧ distR u (corR u t) = n ∧ distOk u (corR u t) = true := by
  by_cases hf : fitW u t = true
  · obtain ⟨m, rfl, hm1, hm4, hm2, hl24, _⟩ := fitW_m hf
    by_cases hz : isWR u (m : Int) = true
    · obtain ⟨e1, e2, e3⟩ := cor_right hz
      have hok : distOk u u = true := by simp [distOk, hl24]
      refine ⟨m, 0, rfl, hm4, Nat.zero_le _, e2, by rw [e1]; exact hz, by rw [e1]; exact hf, ?_, by rw [e1]; exact hok⟩
      rw [e1]
      unfold distR; rw [if_pos hok, dist_self]
    · have hz' : isWR u (m : Int) = false := by simpa using hz
      by_cases hs : (plcs u.length (locL (synL u (2 * m)))).length = 0 ∨ (plcs u.length (locL (synL u (2 * m)))).length ≠ locN (synL u (2 * m)) ((synL u (2 * m)).length / 2)
      · have := (cor_short hz' hf hs).2.2; rw [h] at this; cases this
      · have h0 : (plcs u.length (locL (synL u (2 * m)))).length ≠ 0 := fun e => hs (.inl e)
        have hd : (plcs u.length (locL (synL u (2 * m)))).length = locN (synL u (2 * m)) ((synL u (2 * m)).length / 2) := by
          by_cases e : (plcs u.length (locL (synL u (2 * m)))).length = locN (synL u (2 * m)) ((synL u (2 * m)).length / 2)
          · exact e
          · exact absurd (.inr e) hs
        obtain ⟨hy, hn⟩ := cor_long hz' hf rfl h0 hd
        by_cases hzz : zeroL (synL (putE u (plcs u.length (locL (synL u (2 * m)))) (corE (synL u (2 * m)) (plcs u.length (locL (synL u (2 * m))))) (plcs u.length (locL (synL u (2 * m)))).length) (2 * m)) = true
        · obtain ⟨e1, e2, e3⟩ := hy hzz
          have hE := no_zero hl24 (by omega) hd h0 hzz
          have hlen : (putE u (plcs u.length (locL (synL u (2 * m)))) (corE (synL u (2 * m)) (plcs u.length (locL (synL u (2 * m))))) (plcs u.length (locL (synL u (2 * m)))).length).length = u.length := putE_length _ _ _ _
          have hf2 : fitW (putE u (plcs u.length (locL (synL u (2 * m)))) (corE (synL u (2 * m)) (plcs u.length (locL (synL u (2 * m))))) (plcs u.length (locL (synL u (2 * m)))).length) (m : Int) = true := (fitW_len hlen).trans hf
          have hok : distOk u (putE u (plcs u.length (locL (synL u (2 * m)))) (corE (synL u (2 * m)) (plcs u.length (locL (synL u (2 * m))))) (plcs u.length (locL (synL u (2 * m)))).length) = true := by simp [distOk, hlen, hl24]
          refine ⟨m, (plcs u.length (locL (synL u (2 * m)))).length, rfl, hm4, ?_, e2, ?_, by rw [e1]; exact hf2, ?_, by rw [e1]; exact hok⟩
          · rw [hd]
            have := locN_le (synL u (2 * m)) ((synL u (2 * m)).length / 2)
            simp only [synL_length] at this ⊢
            omega
          · rw [e1]; unfold isWR; rw [hf2, Bool.true_and, Int.toNat_natCast]; exact hzz
          · rw [e1]; unfold distR; rw [if_pos hok, put_dif hE]
        · have := (hn (by simpa using hzz)).2.2; rw [h] at this; cases this
  · have := (cor_unfit (l := u) (t := t) (by simpa using hf)).2.2; rw [h] at this; cases this
end G294

/- What the rows of chapter 8 lay: the type of errors, the table, the sentinels. -/
namespace Go.Proofs.YtblfobbeojdihaaGreatDoor
open Go.RowKit

theorem han_et : Tryz.prog.globalNamed "errors.errorType" = some 2 := by kernel_rfl

theorem han_rt : (Tryz.prog.cutTypes.find? (·.1 == "internal/reflectlite.rtype")).map (·.2) = some 128 := by kernel_rfl

theorem han_row : ((List.range Tryz.prog.types.size).filter fun t => Tryz.prog.rowNamed t [101, 114, 114, 111, 114]) = [50] := by kernel_rfl

theorem han_cell {W : World} (h : handlesMet Tryz.prog [("errors.errorType", Rows.laid_errors_errorType)] W) : W.cell? ⟨2, 0, none⟩ = some (.iface 128 (.agg #[.pointer (some ⟨4, 50, none⟩)])) ∧ 2 < W.heap.size := by
  obtain ⟨name, u, ty, e1, e2, e3, e4, e5⟩ := h _ (List.mem_singleton.2 rfl)
  have en : name = [101, 114, 114, 111, 114] := (Option.some.inj e1).symm
  subst en
  obtain rfl := Option.some.inj (han_rt.symm.trans e2)
  have hm : ty ∈ (List.range Tryz.prog.types.size).filter fun t => Tryz.prog.rowNamed t [101, 114, 114, 111, 114] := List.mem_filter.2 ⟨List.mem_range.2 e3, e4⟩
  rw [han_row] at hm
  obtain rfl := List.mem_singleton.1 hm
  have hh : typeHandle Tryz.prog 50 = .pointer (some ⟨4, 50, none⟩) := by kernel_rfl
  rw [hh] at e5
  exact ⟨by simpa using World.var?_cell han_et e5 0, var_lt han_et e5⟩

theorem han_corrected {W : World} (h : laidMetH Tryz.prog Rows.fnCorrectedRow.laid W) : Tab W ∧ 3 < W.heap.size ∧ ∃ a0 a1, Sen W a0 a1 ∧ W.cell? ⟨2, 0, none⟩ = some (.iface 128 (.agg #[.pointer (some ⟨4, 50, none⟩)])) ∧ 2 < W.heap.size := by
  have h' : laidMet Tryz.prog [("loop.example/g00294/impl.remainders", Rows.laid_loop_example_g00294_impl_remainders), ("loop.example/g00294/impl.errWordSize", Rows.laid_loop_example_g00294_impl_errWordSize), ("loop.example/g00294/impl.errNoWord", Rows.laid_loop_example_g00294_impl_errNoWord)] W ∧ handlesMet Tryz.prog [("errors.errorType", Rows.laid_errors_errorType)] W := h
  have hX : laidMetH Tryz.prog [("loop.example/g00294/impl.remainders", Rows.laid_loop_example_g00294_impl_remainders), ("loop.example/g00294/impl.errWordSize", Rows.laid_loop_example_g00294_impl_errWordSize), ("loop.example/g00294/impl.errNoWord", Rows.laid_loop_example_g00294_impl_errNoWord)] W := by
    rw [MakeChecks.laidMetH_plain _ _ _ (by kernel_rfl)]; exact h'.1
  obtain ⟨ht, hs⟩ := tab_of (by kernel_rfl) hX 0 rfl (by kernel_rfl)
  obtain ⟨a0, a1, hse⟩ := sen_of (Go.laidMet.tail h'.1)
  obtain ⟨g1, g2⟩ := han_cell h'.2
  exact ⟨ht, hs, a0, a1, hse, g1, g2⟩

end Go.Proofs.YtblfobbeojdihaaGreatDoor
