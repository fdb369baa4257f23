/- Joined texts: StpS. -/
import Derived.Test.YtjklngheehhggaaBd17
import Derived.Test.YtjklngheehhggaaBd16
set_option linter.unusedSimpArgs false
set_option linter.unusedVariables false
/- Chapter 9: one step of peeling: the model's. -/
namespace G294
open Go Go.RowKit
def lastU (l : List Nat) : Int := (l.getLast?.map fun (q : Nat) => (q : Int)).getD (-1)
theorem lastU_snoc (l : List Nat) (q : Nat) : lastU (l ++ [q]) = (q : Int) := by simp [lastU]
theorem lastU_one (q : Nat) : lastU [q] = (q : Int) := rfl
def stqR (l : List Sh) (p : Pee) : Pee := (stepP l p).getD ([], [], 0)
def stqOk (l : List Sh) (p : Pee) : Bool := (stepP l p).isSome
theorem stq_none {l : List Sh} {p : Pee} (h : ∀ (i : Nat) (d : Sh), i < l.length → l[i]? = some d → oneStep d p = none) : stqOk l p = false ∧ stqR l p = ([], [], 0) := by
  have := stepP_none h
  exact ⟨by unfold stqOk; rw [this]; rfl, by unfold stqR; rw [this]; rfl⟩
theorem stq_hit {l : List Sh} {p : Pee} {k q : Nat} {d : Sh} (h : ∀ (i : Nat) (d : Sh), i < k → l[i]? = some d → oneStep d p = none) (hd : l[k]? = some d) (hq : unk p (blkN d.1.toNat p.1.length) = [q]) : stqOk l p = true ∧ stqR l p = putP p q (pdat d p) := by
  have := stepP_at h hd (oneStep_one hq)
  exact ⟨by unfold stqOk; rw [this]; rfl, by unfold stqR; rw [this]; rfl⟩
theorem boxT_mid2 {x y z : Value} {W X : World} {T : TypeId} {o o' : Obj} (k : TurnIn 0 0 (((X.alloc (.cells #[x, y, z] T)).alloc o).alloc o') W) : BoxT X.heap.size x y z W := (((boxT_new X x y z T).keep (turn_alloc _ o) (by omega)).keep (turn_alloc _ o') (by omega)).keep k (by omega)
end G294
namespace Go.Proofs.Ytjklngheehhggaa
open Go.RowKit G294

set_option maxRecDepth 100000 in
set_option maxHeartbeats 8000000 in
theorem l9Step_own (vl v u : Value) (l : List Sh) (p : Pee) (n : Nat) (w : World) (hvl : SeenH w vl l) (hv : Seen w v (strs p.1)) (hu : Seen w u (bls p.2.1)) (hok : dropsOk l = true) (hnn : (l.getD 0 (0, [])).2.length = n) (hp : 0 < l.length → PeeP n p) :
    Calls Try.prog 35 #[vl, .agg #[v, u, .int .i64 p.2.2]] w (RetPOk 9 4 w (stqR l p) (stqOk l p)) := by
  have HV := Lib.hid hv
  have HU := Lib.hid hu
  obtain ⟨AL, cl, rfl, hlcl, hlcm, hlx⟩ := hvl
  obtain ⟨A, c, hvv⟩ := hv.len
  rw [strs_length] at hvv
  subst hvv
  obtain ⟨B, d, huu⟩ := hu.len
  rw [bls_length] at huu
  subst huu
  unfold maxLen at hlcm
  have HLALL := Lib.hid (dropsOk_len hok).2
  have HNNN := Lib.hid hnn
  have HHIT := Lib.hid (fun k q d => @stq_hit l p k q d)
  have HNON := Lib.hid (@stq_none l p)
  have HP := Lib.hid hp
  have HLX := Lib.hid hlx
  generalize hnl : l.length = nl at *
  have HN := Lib.hid hnl
  have a1 := turn_alloc w (.cells #[.slice A p.1.length c, .slice B p.2.1.length d, .int .i64 p.2.2] 33)
  have e0 := alloc_tri0 w (.slice A p.1.length c) (.slice B p.2.1.length d) (.int .i64 p.2.2) 33
  have e1 := alloc_tri1 w (.slice A p.1.length c) (.slice B p.2.1.length d) (.int .i64 p.2.2) 33
  have e2 := alloc_tri2 w (.slice A p.1.length c) (.slice B p.2.1.length d) (.int .i64 p.2.2) 33
  have z1 := World.size_alloc w (.cells #[.slice A p.1.length c, .slice B p.2.1.length d, .int .i64 p.2.2] 33)
  have a2 := turn_alloc (w.alloc (.cells #[.slice A p.1.length c, .slice B p.2.1.length d, .int .i64 p.2.2] 33)) (.cells #[.slice none 0 0, .slice none 0 0, .int .i64 0] 33)
  have z2 := World.size_alloc (w.alloc (.cells #[.slice A p.1.length c, .slice B p.2.1.length d, .int .i64 p.2.2] 33)) (.cells #[.slice none 0 0, .slice none 0 0, .int .i64 0] 33)
  have HR := Lib.hid (boxT_new (w.alloc (.cells #[.slice A p.1.length c, .slice B p.2.1.length d, .int .i64 p.2.2] 33)) (.slice none 0 0) (.slice none 0 0) (.int .i64 0) 33)
  rw [World.size_alloc] at HR
  replace e0 := cell_turn a2 e0 (by omega)
  replace e1 := cell_turn a2 e1 (by omega)
  replace e2 := cell_turn a2 e2 (by omega)
  have HKA := Lib.hid (turn_trans a1 a2 (by omega))
  generalize hwa : ((w.alloc (.cells #[.slice A p.1.length c, .slice B p.2.1.length d, .int .i64 p.2.2] 33)).alloc (.cells #[.slice none 0 0, .slice none 0 0, .int .i64 0] 33)) = wa at *
  have HWA := Lib.hid hwa
  have hlt1 : w.heap.size + 2 ≤ wa.heap.size := by omega
  clear hv hu a1 a2 z1 z2 hwa hok hnn hp hnl hlx
  go_enter Try.func35, Try.ntmps35
  go_wp2_with (simp only [HWA.out])
  go_loopw [16] (fun i wr => ∃ k : Nat, k ≤ nl ∧ i = .int .i64 k ∧ Hid (∀ (i : Nat) (d : Sh), i < k → l[i]? = some d → oneStep d p = none) ∧ Below wa.heap.size wa wr)
    (fun i _ => nl - (intOf i).toNat)
  case atStart => exact ⟨0, Nat.zero_le _, rfl, (fun _ _ h => by omega), Below.refl _ _⟩
  case round =>
    obtain ⟨k, hk, rfl, HE, hbr⟩ := hrel
    have kr := TurnIn.of_below hbr
    have zr := kr.size
    replace e0 := cell_turn kr e0 (by omega)
    replace e1 := cell_turn kr e1 (by omega)
    replace e2 := cell_turn kr e2 (by omega)
    have HRR := Lib.hid (HR.out.keep kr (by omega))
    have kk := turn_trans HKA.out kr (by omega)
    by_cases hlt : k < nl
    · have HPP := Lib.hid (HP.out (by omega))
      obtain ⟨bl, ol, hAL, hbl, hcl⟩ := HLX.out (by omega)
      subst hAL
      obtain ⟨⟨no, s⟩, hks⟩ := at_lt HN.out hlt
      have hc1 := cell_turn kk (hcl k _ hks).1 hbl
      have hc2 := cell_turn kk (hcl k _ hks).2 hbl
      simp only at hc1 hc2
      obtain ⟨hn0, hn1, hsl, hs40⟩ := HLALL.out (no, s) (List.mem_of_getElem? hks)
      simp only at hn0 hn1 hsl hs40
      rw [HNNN.out] at hsl
      obtain ⟨no, rfl⟩ := Int.eq_ofNat_of_zero_le hn0
      have hki : (k : Int) < (nl : Int) := by omega
      have HKS := Lib.hid hks
      have hb1 := HPP.out.b1
      have hb2 := HPP.out.b2
      have HKL := Lib.hid HPP.out.kl
      have HLEN := Lib.hid HPP.out.len
      obtain ⟨bb, off, c', hA, hbb, hlm, hcell⟩ := seen_cells (W := w) HV.out hb1
      simp only [Value.slice.injEq, strs_length] at hA
      obtain ⟨rfl, _, rfl⟩ := hA
      obtain ⟨B', d', hB, hld, hdm, hy⟩ := HU.out
      rw [bls_length] at hB hld hy
      simp only [Value.slice.injEq] at hB
      obtain ⟨rfl, _, rfl⟩ := hB
      obtain ⟨bb', off', rfl, hbb', hcell'⟩ := hy (by rw [HKL.out]; exact hb1)
      rw [HKL.out] at hld
      unfold maxLen at hdm
      have HCA := Lib.hid hcell
      have HCB : Hid (∀ W, Below w.heap.size w W → ∀ j y, (bls p.2.1)[j]? = some y → W.cell? ((⟨bb', off', none⟩ : Addr).add j) = some y) := Lib.hid (fun W hb j y hj => by rw [Addr.add_lit]; exact (hb.cell (p := ⟨bb', off' + j, none⟩) hbb').trans (hcell' j y hj))
      have HTB : Hid (∀ W, Below w.heap.size w W → ∀ q, q < p.1.length → W.cell? ⟨bb, off + q, none⟩ = some (.string (str (p.1.getD q [])))) := Lib.hid (fun W hb q hq => by have h := hcell W hb q _ (strs_get p.1 q hq); rw [Addr.add_lit] at h; rw [getD_lt hq []]; exact h)
      have HKB : Hid (∀ W, Below w.heap.size w W → ∀ q, q < p.1.length → W.cell? ⟨bb', off' + q, none⟩ = some (.bool (knw p q))) := Lib.hid (fun W hb q hq => (hb.cell (p := ⟨bb', off' + q, none⟩) hbb').trans (hcell' q _ (bls_getD p.2.1 q (by rw [HKL.out]; exact hq))))
      have HQ : Hid (∀ j, j < (blkN no p.1.length).length → (blkN no p.1.length).getD j 0 < p.1.length) := Lib.hid (fun j hj => (blkK_mem.1 (show (blkN no p.1.length).getD j 0 ∈ blkK _ _ by rw [getD_lt hj 0]; exact List.getElem_mem hj)).1)
      have HKM : (blkN no p.1.length).length ≤ 12 := by have := blkK_len (inF no p.1.length) p.1.length; show (blkK _ _).length ≤ _; omega
      have HTS := Lib.hid (take_snoc (blkN no p.1.length))
      have HLB := Lib.hid (l9Blocks_own no p.1.length)
      have HPT : Hid ((0 : Nat) ≤ 0 → punk ((no : Int), s) p = unk p (blkN no p.1.length) ∧ pdat ((no : Int), s) p = addN p.1 (kno p (blkN no p.1.length)) s) := Lib.hid (fun _ => ⟨by unfold punk; simp, by unfold pdat; simp⟩)
      rw [HKL.out] at e1
      generalize hzz : p.2.2 = zz at *
      generalize hbb0 : p.1.length = b at *
      have HBB := Lib.hid hbb0
      generalize hks0 : blkN no b = ks at *
      have HKS0 := Lib.hid hks0
      generalize hm : ks.length = m at *
      have HMM := Lib.hid hm
      have hzb : 0 ≤ zz ∧ zz ≤ 12 := by rw [← hzz]; exact HPP.out.many_le
      have HZZ := Lib.hid hzz
      have ka := turn_alloc wr (.cells #[.int .i64 (no : Int), .string (str s)] 59)
      have d0 := alloc_duo0 wr (.int .i64 (no : Int)) (.string (str s)) 59
      have d1 := alloc_duo1 wr (.int .i64 (no : Int)) (.string (str s)) 59
      have za : wr.heap.size + 1 ≤ (wr.alloc (.cells #[.int .i64 (no : Int), .string (str s)] 59)).heap.size := by rw [World.size_alloc]; exact Nat.le_refl _
      have HBA := Lib.hid (ka.base hbr hbr.size (by omega))
      have e0' := cell_turn ka e0 (by omega)
      have e1' := cell_turn ka e1 (by omega)
      have e2' := cell_turn ka e2 (by omega)
      have HR8 := Lib.hid (HRR.out.keep ka (by omega))
      have HK8 := Lib.hid (turn_trans kk ka (by omega))
      clear hcell hcell' hy hks hn0 hzz hbb0 hks0 hm
      go_wp2_with fail
      refine (HLB.out _ (by omega) (by omega) (by omega)).mono ?_
      rintro e w7 ⟨v7, rfl, o7, k7⟩
      have s7 := k7.size
      have HB7 := Lib.hid (k7.base HBA.out HBA.out.size (by omega))
      have HK7 := Lib.hid (turn_trans HK8.out k7 (by omega))
      have HR7 := Lib.hid (HR8.out.keep k7 (by omega))
      have x0 := cell_turn k7 e0' (by omega)
      have x1 := cell_turn k7 e1' (by omega)
      have x2 := cell_turn k7 e2' (by omega)
      obtain ⟨A7, n7, c7, rfl⟩ := own_isSlice o7.1
      obtain ⟨A7', c7', hv7, hl7, hm7, hx7⟩ := o7.seen
      rw [ints_length, intL_length, HMM.out] at hv7 hl7 hx7
      simp only [Value.slice.injEq] at hv7
      obtain ⟨rfl, hn7, rfl⟩ := hv7
      have hn7' := hn7.symm
      subst hn7'
      clear hn7
      unfold maxLen at hm7
      have HX7 := Lib.hid hx7
      have hw7 : w.heap.size + 2 ≤ w7.heap.size := by omega
      clear hx7 o7 k7 e0 e1 e2 e0' e1' e2' d0 d1 hc1 hc2 HLB ka
      generalize wr = wo at *
      go_wp2_with fail
      go_loopw [8, 9, 10, 29] (fun xl xm xd i wr => ∃ (j : Nat) (la : Int) (ma : Nat) (da : List UInt8), j ≤ m ∧ i = .int .i64 j ∧ xl = .int .i64 la ∧ xm = .int .i64 ma ∧ xd = .string (str da) ∧ ma ≤ j ∧ (-1 ≤ la ∧ la ≤ 12) ∧ Hid (la = lastU (unk p (ks.take j)) ∧ ma = (unk p (ks.take j)).length ∧ da = addN p.1 (kno p (ks.take j)) s) ∧ Below w7.heap.size w7 wr)
        (fun _ _ _ i _ => m - (intOf i).toNat)
      case atStart => exact ⟨0, -1, 0, s, Nat.zero_le _, rfl, rfl, rfl, rfl, Nat.zero_le _, by omega, ⟨rfl, rfl, rfl⟩, Below.refl _ _⟩
      case round =>
        obtain ⟨j, la, ma, da, hj, rfl, rfl, rfl, rfl, hmj, hla, HJ, hbj⟩ := hrel
        have kj := TurnIn.of_below hbj
        have zj := kj.size
        replace x0 := cell_turn kj x0 (by omega)
        replace x1 := cell_turn kj x1 (by omega)
        replace x2 := cell_turn kj x2 (by omega)
        have hbw : Below w.heap.size w wr := (turn_trans HK7.out kj (by omega)).to_below
        by_cases hltj : j < m
        · obtain ⟨b7, off7, rfl, hbl7, hcell7⟩ := HX7.out (by omega)
          have hcq := cell_turn kj (hcell7 j _ (intL_get ks j (by first | exact hltj | (rw [HMM.out]; exact hltj)))) hbl7
          have hq := HQ.out j hltj
          have HT := Lib.hid (HTS.out j (by first | exact hltj | (rw [HMM.out]; exact hltj)))
          generalize ks.getD j 0 = q at *
          have hcb := HTB.out wr hbw q hq
          have hck := HKB.out wr hbw q hq
          have hji : (j : Int) < (m : Int) := by omega
          have hqi : (q : Int) < (b : Int) := by omega
          have HLQ := Lib.hid (HLEN.out q hq)
          clear hcell7
          cases hkn : knw p q
          · rw [hkn] at hck
            obtain ⟨hu1, hu2⟩ := unk_snoc_no (ks := ks.take j) hkn
            have HJ2 : Hid ((q : Int) = lastU (unk p (ks.take (j + 1))) ∧ ma + 1 = (unk p (ks.take (j + 1))).length ∧ da = addN p.1 (kno p (ks.take (j + 1))) s) := Lib.hid ⟨by rw [HT.out, hu1, lastU_snoc], by rw [HT.out, hu1, List.length_append, ← HJ.out.2.1]; rfl, by rw [HT.out, hu2]; exact HJ.out.2.2⟩
            clear hkn hu1 hu2 hcb
            go_wp2_with fail
            go_roundw
            case rel => exact ⟨j + 1, (q : Int), ma + 1, da, by omega, by go_num, rfl, by go_num, rfl, by omega, by omega, HJ2, hbj⟩
            case measure => simp [intOf]; omega
          · rw [hkn] at hck
            obtain ⟨hu1, hu2⟩ := unk_snoc_yes (ks := ks.take j) hkn
            have hdl : da.length = n := by rw [HJ.out.2.2, addN_length]; exact hsl
            have hbl2 : (p.1.getD q []).length = n := by rw [HLQ.out, hkn]; rfl
            have HL6 : Hid (∀ W, Calls Try.prog 59 #[.string (str da), .int .u8 1, .string (str (p.1.getD q []))] W (RetStr W (plusL da 1 (p.1.getD q [])))) := Lib.hid (fun W => l6Plus_own da (p.1.getD q []) 1 W (by rw [hdl, hbl2]) (by omega))
            have HJ2 : Hid (la = lastU (unk p (ks.take (j + 1))) ∧ ma = (unk p (ks.take (j + 1))).length ∧ plusL da 1 (p.1.getD q []) = addN p.1 (kno p (ks.take (j + 1))) s) := Lib.hid ⟨by rw [HT.out, hu1]; exact HJ.out.1, by rw [HT.out, hu1]; exact HJ.out.2.1, by rw [HT.out, hu2, addN_snoc, ← HJ.out.2.2]⟩
            generalize plusL da 1 (p.1.getD q []) = da2 at *
            generalize p.1.getD q [] = tq at *
            clear hkn hu1 hu2 hdl hbl2
            go_wp2_with fail
            refine (HL6.out _).mono ?_
            rintro e w8 ⟨rfl, k8⟩
            have hb8 := k8.base hbj hbj.size (by omega)
            go_wp2_with fail
            go_roundw
            case rel => exact ⟨j + 1, la, ma, da2, by omega, by go_num, rfl, rfl, rfl, by omega, hla, HJ2, hb8⟩
            case measure => simp [intOf]; omega
        · have hje : j = m := by omega
          have hji : ¬ (j : Int) < (m : Int) := by omega
          have hall : ks.take j = ks := List.take_of_length_le (by first | omega | (rw [HMM.out]; omega))
          rw [hall] at HJ
          obtain ⟨hp1, hp2⟩ := HPT.out (Nat.le_refl _)
          by_cases hm1 : ma = 1
          · subst hm1
            obtain ⟨q, hq⟩ := List.length_eq_one_iff.1 HJ.out.2.1.symm
            have hlaq : la = (q : Int) := by rw [HJ.out.1, hq]; rfl
            subst hlaq
            have hqm := punk_mem (d := ((no : Int), s)) (p := p) (k := q) (by rw [hp1, hq]; exact List.mem_singleton.2 rfl)
            obtain ⟨hst1, hst2⟩ := HHIT.out k q ((no : Int), s) HE.out HKS.out (by show unk p (blkN ((no : Int)).toNat b) = [q]; rw [Int.toNat_natCast, HKS0.out]; exact hq)
            rw [hp2, ← HJ.out.2.2] at hst2
            have hqb : q < b := by rw [← HBB.out]; exact hqm.1
            have HST1 := Lib.hid hst1
            have HST2 := Lib.hid hst2
            have HYA : Hid (∀ W, Below wr.heap.size wr W → ∀ j y, (strs p.1)[j]? = some y → W.cell? ((⟨bb, off, none⟩ : Addr).add j) = some y) := Lib.hid (fun W h => HCA.out W (hbw.trans (h.mono hbw.size)))
            have HYB : Hid (∀ W, Below wr.heap.size wr W → ∀ j y, (bls p.2.1)[j]? = some y → W.cell? ((⟨bb', off', none⟩ : Addr).add j) = some y) := Lib.hid (fun W h => HCB.out W (hbw.trans (h.mono hbw.size)))
            have HLA : Hid ((strs p.1).length = b) := Lib.hid (by rw [strs_length]; exact HBB.out)
            have HLBB : Hid ((bls p.2.1).length = b) := Lib.hid (by rw [bls_length]; exact HKL.out)
            have HRZ := Lib.hid (HR7.out.keep kj (by omega))
            have hwz : IntKind.i64.wrap (zz + 1) = zz + 1 := IntWalk.i64_in _ (by omega)
            have hS0 : Below wr.heap.size wr wr.drew ∧ wr.drew.cell? ⟨w.heap.size, 0, none⟩ = some (.slice (some ⟨bb, off, none⟩) b c) ∧ wr.drew.cell? ⟨w.heap.size, 1, none⟩ = some (.slice (some ⟨bb', off', none⟩) b d) ∧ wr.drew.cell? ⟨w.heap.size, 2, none⟩ = some (.int .i64 zz) := ⟨(Below.refl _ _).drew, x0, x1, x2⟩
            have HSX : Hid (∀ W, Below wr.heap.size wr W → (Below wr.heap.size wr W ∧ W.cell? ⟨w.heap.size, 0, none⟩ = some (.slice (some ⟨bb, off, none⟩) b c) ∧ W.cell? ⟨w.heap.size, 1, none⟩ = some (.slice (some ⟨bb', off', none⟩) b d) ∧ W.cell? ⟨w.heap.size, 2, none⟩ = some (.int .i64 zz))) := Lib.hid (fun W h => ⟨h, (h.cell (p := ⟨w.heap.size, 0, none⟩) (show w.heap.size < wr.heap.size by omega)).trans x0, (h.cell (p := ⟨w.heap.size, 1, none⟩) (show w.heap.size < wr.heap.size by omega)).trans x1, (h.cell (p := ⟨w.heap.size, 2, none⟩) (show w.heap.size < wr.heap.size by omega)).trans x2⟩)
            clear hq hqm hst1 hst2 hp1 hp2
            go_wp2_with fail
            go_cut [13] from 51 to 62 (fun s13 wx => NewP 9 4 wr p.1 p.2.1 (zz + 1) s13 wx)
            case first =>
              go_region_held3 (fun W => Below wr.heap.size wr W ∧ W.cell? ⟨w.heap.size, 0, none⟩ = some (.slice (some ⟨bb, off, none⟩) b c) ∧ W.cell? ⟨w.heap.size, 1, none⟩ = some (.slice (some ⟨bb', off', none⟩) b d) ∧ W.cell? ⟨w.heap.size, 2, none⟩ = some (.int .i64 zz))
                (first | exact hS0 | exact HSX.out _ (by assumption) | (refine HSX.out _ ?_; repeat' (first | exact hb4 | exact hb3 | exact Below.refl _ _ | refine Below.drew ?_ | refine Below.alloc ?_ (by first | exact hs4 | exact hs3 | exact Nat.le_refl _ | (simp <;> omega)) _ | refine Below.setCell ?_ (by first | exact hs4 | exact hs3 | exact Nat.le_refl _ | (simp <;> omega)) _)))
                (first
                  | (refine step_appendLit (by rfl) _ _ _ (by rfl) 9 _ _ Try.underlying30 infoStr rfl _ (by rfl) ⟨bb, off, none⟩ b c (strs p.1) (by rfl) (by omega) HLA.out (by exact HYA.out _ (And.left (by assumption))) (strs_oneC _) (by omega) (by omega) ?_; intro g1 cp1 w3 HG1 ho1 k3; have hb3 : Below wr.heap.size wr w3 := k3.base (And.left (by assumption)) (Below.size (And.left (by assumption))) (by omega); have hs3 := hb3.size; (first | (have fb := boxT_mid2 k3; (try simp only [World.size_alloc, World.size_drew] at fb); have hBx := fb) | (have fb := boxT_mid2 (undrew k3); (try simp only [World.size_alloc, World.size_drew] at fb); have hBx := fb) | (have fb := boxT_mid k3; (try simp only [World.size_alloc, World.size_drew] at fb); have hBx := fb) | (have fb := boxT_mid (undrew k3); (try simp only [World.size_alloc, World.size_drew] at fb); have hBx := fb) | (have fb := boxT_made k3; (try simp only [World.size_alloc, World.size_drew] at fb); have hBx := fb) | (have fb := boxT_made (undrew k3); (try simp only [World.size_alloc, World.size_drew] at fb); have hBx := fb) | skip))
                  | (refine step_appendLit (by rfl) _ _ _ (by rfl) 4 _ _ Try.underlying31 infoBool rfl _ (by rfl) ⟨bb', off', none⟩ b d (bls p.2.1) (by rfl) (by omega) HLBB.out (by exact HYB.out _ (And.left (by assumption))) (bls_oneC _) (by omega) (by omega) ?_; intro g2 cp2 w4 HG2 ho2 k4; have hb4 : Below wr.heap.size wr w4 := k4.base (And.left (by assumption)) (Below.size (And.left (by assumption))) (by omega); have hs4 := hb4.size; have h34 : TurnIn 0 0 w3 w4 := (by first | exact k4 | exact undrew k4 | exact turn_trans (turn_alloc _ _) k4 (by omega) | exact turn_trans (turn_trans (turn_alloc _ _) (turn_alloc _ _) (by omega)) k4 (by omega)); (first | (have hBx4 := hBx.keep h34 (by omega); have fb := hBx4; obtain ⟨b0, b1, b2, b3, b4, b5, b6⟩ := fb) | (have fb := boxT_mid (undrew k4); (try simp only [World.size_alloc, World.size_drew] at fb); have hBx4 := fb; obtain ⟨b0, b1, b2, b3, b4, b5, b6⟩ := fb) | (have fb := boxT_mid k4; (try simp only [World.size_alloc, World.size_drew] at fb); have hBx4 := fb; obtain ⟨b0, b1, b2, b3, b4, b5, b6⟩ := fb) | (have fb := boxT_made (undrew k4); (try simp only [World.size_alloc, World.size_drew] at fb); have hBx4 := fb; obtain ⟨b0, b1, b2, b3, b4, b5, b6⟩ := fb) | (have fb := boxT_made k4; (try simp only [World.size_alloc, World.size_drew] at fb); have hBx4 := fb; obtain ⟨b0, b1, b2, b3, b4, b5, b6⟩ := fb) | skip)))
              all_goals
                go_wp2_with fail
                go_meet
              all_goals
                have e1 := HG1.out
                have e2 := HG2.out
                (try simp only [World.size_alloc, World.size_drew] at e1)
                (try simp only [World.size_alloc, World.size_drew] at e2)
                have k3s := ho1.lt g1 rfl
                have k4s := ho2.lt g2 rfl
                have s34 := h34.size
                have kw4 := TurnIn.of_below hb4
                have O1 : OwnStrs 9 w4 g1 w3.heap.size (.slice (some ⟨g1, 0, none⟩) b cp1) p.1 := OwnStrs.keep (hi := w3.heap.size) ⟨own_lower ho1 (Nat.le_refl _) HBB.out.symm, Nat.le_refl _, fun g e => (ho1.lt g e).2⟩ h34 (by omega)
                have O2 : OwnBools 4 w4 g2 w4.heap.size (.slice (some ⟨g2, 0, none⟩) b cp2) p.2.1 := ⟨HKL.out.symm ▸ ho2, Nat.le_refl _, fun g e => (ho2.lt g e).2⟩
              all_goals first
                | exact newP_new kw4 O1 O2 (by omega) (by omega) (.inl (by omega))
                | exact newP_set hBx4 (by omega) kw4 O1 O2 (by omega) (by omega) (.inl (by omega)) (by omega) (by omega)
                | skip
              all_goals trace_state
            case rest =>
              obtain ⟨B9, x9, y9, rfl, hBx, hB9, ⟨l1, h1, l2, h2, g1, g2, hd, hd1, hd2, o1, o2⟩, k9⟩ := hcut
              generalize hwc : wc = w9 at *
              clear hwc HSX hS0 HYA HYB
              have s9 := k9.size
              have hb1 : 1 ≤ b := by omega
              obtain ⟨gx, cx, rfl, hx1, hx2, hcx1, hcx2, hxc, hxf⟩ := o1.shape (by rw [HBB.out]; exact hb1)
              rw [HBB.out] at hBx hcx1 hxc o1
              obtain ⟨gy, cy, rfl, hy1, hy2, hcy1, hcy2⟩ := o2.shape (by rw [HKL.out]; exact hb1)
              rw [HKL.out] at hBx hcy1 o2
              have kk9 := turn_trans (turn_trans HK7.out kj (by omega)) k9 (by omega)
              unfold maxLen at hcx2 hcy2
              have hne1 : gx ≠ B9 := by omega
              have hne2 : gy ≠ B9 := by omega
              have hne3 : gx ≠ gy := by omega
              have hxk := hxc q hqb
              have hxfk := hxf q
              have hqi : (q : Int) < (b : Int) := by omega
              have oxs : OwnStrs 9 (w9.setCell ⟨gx, q, none⟩ (.string (str da))) l1 h1 (.slice (some ⟨gx, 0, none⟩) b cx) (p.1.set q da) := o1.store HBB.out rfl
              have ks1 := turn_setCell w9 gx q (.string (str da))
              have oy1 := o2.keep ks1 (by omega)
              have hB1 := hBx.keep ks1 (by omega)
              have hyk := oy1.cellAt (k := q) (by rw [HKL.out]; exact hqb)
              have hyfk := oy1.frozenAt q
              have oys : OwnBools 4 ((w9.setCell ⟨gx, q, none⟩ (.string (str da))).setCell ⟨gy, q, none⟩ (.bool true)) l2 h2 (.slice (some ⟨gy, 0, none⟩) b cy) (p.2.1.set q true) := oy1.store HKL.out rfl
              have ks2 := turn_setCell (w9.setCell ⟨gx, q, none⟩ (.string (str da))) gy q (.bool true)
              have oxs2 := oxs.keep ks2 (by omega)
              have hB2 := hB1.keep ks2 (by omega)
              have hR2 := ((HRZ.out.keep k9 (by omega)).keep ks1 (by omega)).keep ks2 (by omega)
              have kall := turn_old (turn_old kk9 ks1 (by omega)) ks2 (by omega)
              have kS := turn_set3 ((w9.setCell ⟨gx, q, none⟩ (.string (str da))).setCell ⟨gy, q, none⟩ (.bool true)) (w.heap.size + 1) (.slice (some ⟨gx, 0, none⟩) b cx) (.slice (some ⟨gy, 0, none⟩) b cy) (.int .i64 (zz + 1))
              have kend := turn_old kall kS (by omega)
              have sall := kS.size
              have oxf := oxs2.keep kS (by omega)
              have oyf := oys.keep kS (by omega)
              have HPQ : Hid (putP p q da = (p.1.set q da, p.2.1.set q true, zz + 1)) := Lib.hid (by unfold putP; rw [HZZ.out])
              have HF : Hid (RetPOk 9 4 w (p.1.set q da, p.2.1.set q true, zz + 1) true (.returned (.tuple #[.agg #[.slice (some ⟨gx, 0, none⟩) b cx, .slice (some ⟨gy, 0, none⟩) b cy, .int .i64 (zz + 1)], .bool true])) (((((w9.setCell ⟨gx, q, none⟩ (.string (str da))).setCell ⟨gy, q, none⟩ (.bool true)).setCell ⟨w.heap.size + 1, 0, none⟩ (.slice (some ⟨gx, 0, none⟩) b cx)).setCell ⟨w.heap.size + 1, 1, none⟩ (.slice (some ⟨gy, 0, none⟩) b cy)).setCell ⟨w.heap.size + 1, 2, none⟩ (.int .i64 (zz + 1)))) := by
                have e := sall
                exact Lib.hid ⟨_, _, rfl, ⟨l1, h1, l2, h2, by omega, by have := oxf.2.1; omega, by omega, by have := oyf.2.1; omega, hd, oxf, oyf⟩, kend⟩
              clear oxf oyf kS kend sall kall oxs2 oxs oys oy1 ks1 ks2 k9 kk9 o1 o2 hd hd1 hd2 hxc hxf
              obtain ⟨p0, p1, p2, _, _, _, _⟩ := hBx
              obtain ⟨t0, t1, t2, _, _, _, _⟩ := hB1
              obtain ⟨v0, v1, v2, _, _, _, _⟩ := hB2
              obtain ⟨y0, y1, y2, y3, y4, y5, y6⟩ := hR2
              go_wp2_with fail
              refine bodyPost_ret (v := .tuple #[.agg #[.slice (some ⟨gx, 0, none⟩) b cx, .slice (some ⟨gy, 0, none⟩) b cy, .int .i64 (zz + 1)], .bool true]) (by simp [results, Try.results35, go_sem, y0, y1, y2, y3, y4, y5]) rfl ?_
              rw [HST1.out, HST2.out, HPQ.out]
              exact HF.out
          · have hone := oneStep_not (d := ((no : Int), s)) (p := p) (by rw [hp1, ← HJ.out.2.1]; exact hm1)
            have HE2 : Hid (∀ (i : Nat) (d : Sh), i < k + 1 → l[i]? = some d → oneStep d p = none) := Lib.hid (fun i d hi hd => by
              rcases Nat.lt_or_ge i k with h | h
              · exact HE.out i d h hd
              · obtain rfl : i = k := by omega
                rw [HKS.out] at hd
                obtain rfl := Option.some.inj hd
                exact hone)
            have hbe : ((ma : Int) != 1) = true := by rw [bne_iff_ne]; omega
            have HBX := Lib.hid (kj.base HB7.out HB7.out.size (by omega))
            clear hone hp1 hp2
            go_wp2_with fail
            go_roundw
            case rel => exact ⟨k + 1, by omega, by go_num, HE2, HBX.out⟩
            case measure => simp [intOf]; omega
    · have hke : k = nl := by omega
      have hki : ¬ (k : Int) < (nl : Int) := by omega
      have HF := Lib.hid (HNON.out (fun i d hi hd => HE.out i d (by omega) hd))
      obtain ⟨y0, y1, y2, y3, y4, y5, y6⟩ := HRR.out
      have kS := turn_set3 wr (w.heap.size + 1) (.slice none 0 0) (.slice none 0 0) (.int .i64 0)
      have kend := turn_old kk kS (by omega)
      have send := kend.size
      go_wp2_with fail
      refine bodyPost_ret (v := .tuple #[.agg #[.slice none 0 0, .slice none 0 0, .int .i64 0], .bool false]) (by simp [results, Try.results35, go_sem, y0, y1, y2, y3, y4, y5]) rfl ?_
      exact ⟨_, _, by rw [HF.out.1, HF.out.2], by rw [HF.out.2]; exact OwnP.nil _ _ _ _ send, kend⟩

end Go.Proofs.Ytjklngheehhggaa
