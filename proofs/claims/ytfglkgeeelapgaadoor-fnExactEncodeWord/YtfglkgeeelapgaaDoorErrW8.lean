/- Chapter 8: the division, and EncodeWord: the model's. -/
import Derived.Test.YtfglkgeeelapgaaDoorErrW7
set_option linter.unusedSimpArgs false
set_option linter.unusedVariables false
namespace Go.Proofs.YtfglkgeeelapgaaDoor
open Go.RowKit G294

set_option maxRecDepth 100000 in
set_option maxHeartbeats 4000000 in
theorem l8Left_own (v u : Value) (l d : List UInt8) (w : World) (hv : Seen w v (bys l)) (hu : Seen w u (bys d)) (hd1 : 2 ≤ d.length) (hld : d.length ≤ l.length) (hl : l.length ≤ 1000) :
    Calls Tryd.prog 90 #[v, u] w (RetBytes 5 w (leftL l d)) := by
  obtain ⟨b0, off0, c0, rfl, hbl0, hlm0, hcell0⟩ := seen_cellsB hv (by omega)
  obtain ⟨b, off, cd, rfl, hbl, hdm, hcell⟩ := seen_cellsB hu (by omega)
  have hbA : Below w.heap.size w (w.alloc (.cells #[] 5)) := (Below.refl _ _).alloc (Nat.le_refl _) _
  obtain ⟨cp, w1, hap, ho1, kA⟩ := run_appLit (P := Tryd.prog) (w.alloc (.cells #[] 5)) 22 22 5 _ _ Tryd.underlying22 infoByte rfl ⟨w.heap.size, 0, none⟩ ⟨b0, off0, none⟩ l.length c0 (bys l) (by omega) (bys_length _) (hcell0 _ hbA) (fun y hy => bys_one y l hy) (by omega) (by omega)
  rw [World.size_alloc] at hap ho1
  have hb1 : Below w.heap.size w w1 := kA.base hbA (by simp) (by omega)
  have hcp : l.length ≤ cp ∧ cp ≤ maxLen := by
    rcases ho1.2 with ⟨hh, _⟩ | ⟨g', cap, cur, e, hbg, hg, hnc, hcm, hcs, ht⟩
    · simp at hh
    · simp only [Value.slice.injEq] at e
      exact ⟨by omega, by omega⟩
  obtain ⟨g, hg⟩ : ∃ g, g = w.heap.size + 1 := ⟨_, rfl⟩
  rw [← hg] at hap ho1
  have hg1 : w.heap.size ≤ g := by omega
  have hg2 : g < w1.heap.size := (ho1.lt g rfl).2
  have o1' : w1.ownsRow w.heap.size 5 1 (.slice (some ⟨g, 0, none⟩) l.length cp) l.length (bys l) := own_base ho1 (by omega)
  have HX := Lib.hid hcell
  clear hcell hcell0 hv hu kA ho1 hg
  obtain ⟨hcp1, hcp2⟩ := hcp
  unfold maxLen at hcp2
  have HLL : Hid (leftL l d = mkRow (d.length - 1) (remF d l.length (fun i => l.getD i 0) (l.length + 1 - d.length))) := rfl
  have HL0 : Hid (bys l = bys (mkRow l.length (remF d l.length (fun i => l.getD i 0) 0))) := by
    show _ = _
    congr 1
    exact ext_getD (by simp) fun j hj => by rw [mkRow_getD _ _ _ hj]; rfl
  rw [HL0.out] at o1'
  have HAP := Lib.hid hap
  clear hap
  generalize hF : (fun i => l.getD i 0) = F0 at *
  generalize hnn : l.length = n at *
  generalize hgg : d.length = gl at *
  have HN := Lib.hid hnn
  have HG := Lib.hid hgg
  clear hnn hgg hF
  have HML : Hid (∀ (k : Nat) (F : Nat → UInt8), (mkRow k F).length = k) := fun k F => by simp
  have HO1 := Lib.hid o1'
  clear o1' hbA
  obtain ⟨n0, hn0⟩ : ∃ n0, n = n0 + 1 := ⟨n - 1, by omega⟩
  have hw0 : IntKind.i64.wrap ((n : Int) - 1) = (n0 : Int) := by rw [IntWalk.i64_in _ (by omega)]; omega
  obtain ⟨g0, hg0⟩ : ∃ g0, gl = g0 + 1 := ⟨gl - 1, by omega⟩
  have hwg : IntKind.i64.wrap ((gl : Int) - 1) = (g0 : Int) := by rw [IntWalk.i64_in _ (by omega)]; omega
  have HN0 := Lib.hid hn0
  have HG0 := Lib.hid hg0
  clear hn0 hg0
  go_enter Tryd.func90, Tryd.ntmps90
  go_wp2_with (at_builtin; refine Lib.wpList_append_run _ rfl _ _ _ _ rfl _ _ rfl rfl _ _ HAP.out ?_)
  go_wp2_with fail
  go_loopw [6] (fun i wr => ∃ m q : Nat, q + 1 + m = n ∧ gl ≤ q + 2 ∧ i = .int .i64 q ∧ wr.ownsRow w.heap.size 5 1 (.slice (some ⟨g, 0, none⟩) n cp) n (bys (mkRow n (remF d n F0 m))) ∧ Below w.heap.size w wr ∧ g < wr.heap.size)
    (fun i _ => (intOf i).toNat)
  case atStart => exact ⟨0, n0, by have := HN0.out; omega, by have := HN0.out; omega, rfl, HO1.out, hb1, hg2⟩
  case round =>
    obtain ⟨m, q, hrm, hgr, rfl, hown, hb, hgz⟩ := hrel
    clear hb1 hg2
    have hgg := HG0.out
    by_cases hlt : gl ≤ q + 1
    · obtain ⟨a, ha⟩ : ∃ a, a = q + 1 - gl := ⟨_, rfl⟩
      have hag : a + gl = q + 1 := by omega
      have hi1 : (g0 : Int) ≤ (q : Int) := by omega
      have hqn : q < n := by omega
      obtain ⟨z, hz⟩ : ∃ z : Int, z = (q : Int) - (gl : Int) := ⟨_, rfl⟩
      have hw2 : IntKind.i64.wrap ((q : Int) - (gl : Int)) = z := by rw [IntWalk.i64_in _ (by omega)]; omega
      have hw3 : IntKind.i64.wrap (z + 1) = (a : Int) := by rw [IntWalk.i64_in _ (by omega)]; omega
      have hcq := own_cell8 hown (HML.out _ _).symm (k := q) (by omega)
      rw [mkRow_getD _ _ _ (by omega)] at hcq
      have HREM : Hid (remF d n F0 (m + 1) = remI d a (remF d n F0 m q) (remF d n F0 m) gl) := by
        show remI d (n - m - d.length) (remF d n F0 m (n - 1 - m)) (remF d n F0 m) d.length = _
        rw [HG.out, show n - m - gl = a by omega, show n - 1 - m = q by omega]
      have HRZ : Hid (∀ f, bys (mkRow n (remI d a f (remF d n F0 m) 0)) = bys (mkRow n (remF d n F0 m))) := fun f => by
        congr 1; exact mkRow_congr fun p _ => remI_zero d a f _ p
      generalize hf : remF d n F0 m q = f at *
      have HQ : Hid (q + 1 + m = n) := by show _ = _; omega
      have HGG := Lib.hid hgg
      clear ha hf hz hgg
      have hzb : -1 ≤ z ∧ z ≤ 1000 := by
        have := hw2
        rw [IntWalk.i64_in _ (by omega)] at this; omega
      obtain ⟨hzb1, hzb2⟩ := hzb
      go_wp2_with fail
      generalize wr = wo at *
      go_loopw [29] (fun i wq => ∃ j : Nat, j ≤ gl ∧ i = .int .i64 j ∧ wq.ownsRow w.heap.size 5 1 (.slice (some ⟨g, 0, none⟩) n cp) n (bys (mkRow n (remI d a f (remF d n F0 m) j))) ∧ Below w.heap.size w wq ∧ g < wq.heap.size)
        (fun i _ => gl - (intOf i).toNat)
      case atStart => exact ⟨0, Nat.zero_le _, rfl, by rw [HRZ.out]; exact hown, hb, hgz⟩
      case round =>
        obtain ⟨j, hj, rfl, ho, hbq, hgq⟩ := hrel
        clear hown hb hgz hcq
        by_cases hlj : j < gl
        · have hji : (j : Int) < (gl : Int) := by omega
          have hjd : j < d.length := by rw [HG.out]; exact hlj
          have hdj := HX.out _ hbq j _ (bys_get d j hjd)
          rw [Addr.add_lit] at hdj
          rw [show d[j] = d.getD j 0 by simp [List.getD, hjd]] at hdj
          obtain ⟨p, hp⟩ : ∃ p, p = a + j := ⟨_, rfl⟩
          have hpn : p < n := by omega
          have hce := own_cell8 ho (HML.out _ _).symm (k := p) hpn
          rw [mkRow_getD _ _ _ hpn, hp, remI_at] at hce
          have hst := own_set8 ho (a + j) (remF d n F0 m (a + j) ^^^ gmul f (d.getD j 0))
          rw [rem_set] at hst
          have hfr := ho.frozenAt (a + j)
          have hwp : IntKind.i64.wrap ((a : Int) + (j : Int)) = (p : Int) := by rw [IntWalk.i64_in _ (by omega)]; omega
          rw [← hp] at hce hst hfr
          have hbs : Below w.heap.size w (wr.setCell ⟨g, p, none⟩ (.int .u8 ((remF d n F0 m p ^^^ gmul f (d.getD j 0)).toNat : Int))) := hbq.setCell hg1 _
          have HC := Lib.hid (stillA (l1Times_u8 f (d.getD j 0) wr.drew))
          have hxor := xor_u8 (remF d n F0 m p) (gmul f (d.getD j 0))
          have hps : (p : Int) < (n : Int) := by omega
          generalize remF d n F0 m p = y at *
          generalize d.getD j 0 = x at *
          have HST := Lib.hid hst
          have HBS := Lib.hid hbs
          clear hst hbs ho hp
          go_wp2_with fail
          refine wp_region_still_tail 15 (by kernel_rfl) (by kernel_rfl) ?_
          simp only [List.take_succ_cons, List.take_zero, List.drop_succ_cons, List.drop_zero]
          repeat (first | still_step | still_call (HC.out))
          refine wpStill_nil ?_
          go_wp2_with fail
          go_roundw
          case rel => exact ⟨j + 1, by omega, by go_num, HST.out, below_drewN HBS.out _, by simpa using hgq⟩
          case measure => simp [intOf]; omega
        · obtain rfl : j = gl := by omega
          have hji : ¬ (j : Int) < (j : Int) := by omega
          have HQ1 : Hid (∃ q1, q = q1 + 1) := ⟨q - 1, by have := HGG.out; omega⟩
          obtain ⟨q1, hq1⟩ := HQ1.out
          have hwq : IntKind.i64.wrap ((q : Int) - 1) = (q1 : Int) := by rw [IntWalk.i64_in _ (by omega)]; omega
          have HQ2 := Lib.hid hq1
          clear hq1 HQ1
          go_wp2_with fail
          go_roundw
          case rel => exact ⟨m + 1, q1, by have := HQ.out; have := HQ2.out; omega, by have := HQ2.out; omega, by go_num, by rw [HREM.out]; exact ho, hbq, hgq⟩
          case measure => have := HQ2.out; simp [intOf]; omega
    · have hi1 : ¬ (g0 : Int) ≤ (q : Int) := by omega
      have hsh := own_short hown (k := g0) (by omega)
      rw [bys_takeF _ _ _ (by omega)] at hsh
      have HSH := Lib.hid hsh
      have hgn : g0 ≤ n := by omega
      have HM : Hid (n + 1 - gl = m ∧ gl - 1 = g0) := by show _ ∧ _; omega
      clear hown hsh hgg
      go_wp2_with fail
      go_ret
      refine ⟨_, rfl, OwnBytes.of_made ?_, TurnIn.of_below hb⟩
      rw [HLL.out, HML.out, HM.out.1, HM.out.2]
      exact HSH.out

set_option maxRecDepth 100000 in
set_option maxHeartbeats 4000000 in
theorem sEncodeWord_own (v : Value) (l : List UInt8) (t : Int) (w : World) (hv : Seen w v (bys l)) (hl20 : l.length ≤ 1048576) : Calls Tryd.prog 35 #[v, .int .i64 t] w (RetBytesOk 5 w (encR8 l t) (encOk8 l t)) := by
  have HV := Lib.hid hv
  obtain ⟨A, c, rfl, hlc, hcm, hx⟩ := hv
  rw [bys_length] at hlc HV hx
  simp only [bys_length]
  unfold maxLen at hcm
  have HNO : Hid (encOk8 l t = false → encR8 l t = []) := fun h => if_neg (by rw [h]; simp)
  have HYES : Hid (encOk8 l t = true → encR8 l t = encL8 l (2 * t.toNat)) := fun h => if_pos h
  by_cases he : errT t = true
  · obtain ⟨m, rfl, h1, h4⟩ := errT_b he
    have HE := Lib.hid he
    have HF : Hid (encOk8 l (m : Int) = sizB m (2 * m + l.length)) := encOk8_b h1 h4
    have HGN := Lib.hid (fun W : World => l8Generator_own m W h1 h4)
    obtain ⟨k, hk⟩ : ∃ k, k = 2 * m := ⟨_, rfl⟩
    rw [← hk] at HGN HF
    have hm2 : 2 * (m : Int) = (k : Int) := by omega
    have hk2 : 2 ≤ k := by omega
    have hk8 : k ≤ 8 := by omega
    have HYE : Hid (encOk8 l (m : Int) = true → encR8 l (m : Int) = leftL (zerosN k ++ l) (genL k) ++ l) := fun h => by
      rw [HYES.out h, encL8, Int.toNat_natCast, ← hk]
    have HSZ : Hid (∀ s, sizB m s = decide (k < s ∧ s ≤ 24)) := fun s => by rw [hk]; rfl
    have HGL : Hid ((genL k).length = k + 1) := genL_length k
    have HZL : Hid (bys (zerosN k) = List.replicate k (.int .u8 0) ∧ (zerosN k).length = k) := by
      show _ ∧ _
      exact ⟨by simp [zerosN, bys, List.map_replicate], by simp [zerosN]⟩
    clear he hk HYES h1 h4
    generalize hnn : l.length = n at *
    have HN := Lib.hid hnn
    clear hnn
    by_cases hn0 : n = 0
    · have hz : ((n : Int) == 0) = true := by simp [hn0]
      have HO : Hid (encOk8 l (m : Int) = false) := by show _ = _; rw [HF.out, HSZ.out]; simp [hn0]
      clear hn0
      go_enter Tryd.func35, Tryd.ntmps35
      go_wp2_with fail
      refine (l8T_any _ _).mono ?_
      rintro e w' ⟨rfl, rfl⟩
      rw [HE.out]
      go_wp2_with fail
      go_ret2
      exact ⟨.slice none 0 0, by rw [HO.out]; rfl, by rw [HNO.out HO.out]; exact OwnBytes.nil _ _ _, TurnIn.refl _⟩
    · have hz : ((n : Int) == 0) = false := by simp; omega
      obtain ⟨b, off, rfl, hbl, hcell⟩ := hx (by omega)
      have HX := Lib.hid hcell
      clear hx hcell
      obtain ⟨s, hs⟩ : ∃ s, s = k + n := ⟨_, rfl⟩
      by_cases hbig : s ≤ 24
      · have HO : Hid (encOk8 l (m : Int) = true) := by show _ = _; rw [HF.out, HSZ.out]; simp; omega
        have hwa : IntKind.i64.wrap ((n : Int) + (k : Int)) = (s : Int) := by rw [IntWalk.i64_in _ (by omega)]; omega
        have hd24 : decide ((24 : Int) < (s : Int)) = false := by simp; omega
        have hd24i : ¬ (24 : Int) < (s : Int) := by omega
        obtain ⟨i0, hi0, hz0, hz1, hz2⟩ := info_parts infoByte
        have HS := Lib.hid hs
        have hs24 : s ≤ 24 := hbig
        have hns : n + k = s := by omega
        clear hs hbig
        go_enter Tryd.func35, Tryd.ntmps35
        go_wp2_with fail
        refine (l8T_any _ _).mono ?_
        rintro e w' ⟨rfl, rfl⟩
        rw [HE.out]
        go_wp2_with (at_make; refine wpList_make_full _ rfl _ _ _ rfl w.heap.size _ i0 _ 1 Tryd.underlying22 hi0 hz0 hz1 _ _ _ _ k rfl rfl rfl rfl ?b2 ?b3 ?b4 ?_)
        case b2 => rw [hz2]; omega
        case b3 => unfold maxLen; omega
        case b4 => exact Nat.le_refl _
        intro w1 hown1 hg1
        have hb1 : Below w.heap.size w w1 := below_of_grown hg1 (Nat.le_refl _) (by simp)
        have z1 := hb1.size
        rw [toList_madeCells_one, ← HZL.out.1] at hown1
        have HO1 := Lib.hid hown1
        have hys : ∀ j y, (bys l)[j]? = some y → w1.cell? ((⟨b, off, none⟩ : Addr).add j) = some y := fun j y hj => by rw [Addr.add_lit]; exact (hb1.cell (p := ⟨b, off + j, none⟩) hbl).trans (HX.out j y hj)
        have HYS := Lib.hid hys
        have HNL : Hid ((bys l).length = n) := by show _ = _; rw [bys_length]; exact HN.out
        clear hg1 hown1 hys
        go_wp2_with (at_builtin; refine wpList_appendN rfl _ _ _ rfl w.heap.size 5 _ _ Tryd.underlying22 infoByte rfl _ k (bys (zerosN k)) rfl HO1.out ⟨b, off, none⟩ n c (bys l) rfl HNL.out HYS.out (fun y hy => bys_one y _ hy) ?c1 ?c2 ?c3 ?_)
        case c1 => omega
        case c2 => omega
        case c3 => exact z1
        intro v2 w2 ho2 hg2 hv2
        have hb2 : Below w.heap.size w w2 := hb1.grown hg2 z1 (fun g e => (HO1.out.lt g e).1)
        have z2 := hb2.size
        have hks : k + n = s := by omega
        have hso2 : Seen w2 v2 (bys (zerosN k ++ l)) := by rw [bys_append]; exact Seen.of_own ho2
        have HS2 := Lib.hid hso2
        clear ho2 hg2 hv2 hso2
        go_wp2_with fail
        refine (HGN.out _).mono ?_
        rintro e w3 ⟨v3, rfl, o3, k3⟩
        have z3 := k3.size
        have hb3 := k3.base hb2 z2 (by omega)
        have HLF := Lib.hid (l8Left_own v2 v3 (zerosN k ++ l) (genL k) w3 (HS2.out.touch k3) o3.seen (by rw [HGL.out]; omega) (by rw [HGL.out, List.length_append, HZL.out.2, HN.out]; omega) (by rw [List.length_append, HZL.out.2, HN.out]; omega))
        clear o3 k3
        go_wp2_with fail
        refine HLF.out.mono ?_
        rintro e w4 ⟨v4, rfl, o4, k4⟩
        have z4 := k4.size
        have hb4 := k4.base hb3 (by omega) (by omega)
        have o4' : w4.ownsRow w.heap.size 5 1 v4 k (bys (leftL (zerosN k ++ l) (genL k))) := by
          have h := own_base (base' := w.heap.size) o4.1 (by omega)
          rw [leftL_length, HGL.out, Nat.add_sub_cancel] at h
          exact h
        have HO4 := Lib.hid o4'
        have hys4 : ∀ j y, (bys l)[j]? = some y → w4.cell? ((⟨b, off, none⟩ : Addr).add j) = some y := fun j y hj => by rw [Addr.add_lit]; exact (hb4.cell (p := ⟨b, off + j, none⟩) hbl).trans (HX.out j y hj)
        have HYS4 := Lib.hid hys4
        have HLE : Hid ((leftL (zerosN k ++ l) (genL k) ++ l).length = k + n) := by show _ = _; rw [List.length_append, leftL_length, HGL.out, HN.out]; omega
        clear o4 k4 o4' hys4
        go_wp2_with (at_builtin; refine wpList_appendN rfl _ _ _ rfl w.heap.size 5 _ _ Tryd.underlying22 infoByte rfl _ k (bys (leftL (zerosN k ++ l) (genL k))) rfl HO4.out ⟨b, off, none⟩ n c (bys l) rfl HNL.out HYS4.out (fun y hy => bys_one y _ hy) ?c4 ?c5 ?c6 ?_)
        case c4 => omega
        case c5 => omega
        case c6 => omega
        intro v5 w5 ho5 hg5 hv5
        have hb5 : Below w.heap.size w w5 := hb4.grown hg5 (by omega) (fun g e => (HO4.out.lt g e).1)
        rw [← bys_append] at ho5
        have HO5 := Lib.hid ho5
        clear ho5 hg5 hv5
        go_wp2_with fail
        go_ret2
        refine ⟨v5, by rw [HO.out]; rfl, ?_, TurnIn.of_below hb5⟩
        rw [HYE.out HO.out]
        refine OwnBytes.of_made ?_
        rw [HLE.out, show k + n = s by omega]; exact HO5.out
      · have HO : Hid (encOk8 l (m : Int) = false) := by show _ = _; rw [HF.out, HSZ.out]; simp; omega
        have hwa : IntKind.i64.wrap ((n : Int) + (k : Int)) = (s : Int) := by rw [IntWalk.i64_in _ (by omega)]; omega
        have hd24 : decide ((24 : Int) < (s : Int)) = true := by simp; omega
        have hd24i : (24 : Int) < (s : Int) := by omega
        clear hs
        go_enter Tryd.func35, Tryd.ntmps35
        go_wp2_with fail
        refine (l8T_any _ _).mono ?_
        rintro e w' ⟨rfl, rfl⟩
        rw [HE.out]
        go_wp2_with fail
        go_ret2
        exact ⟨.slice none 0 0, by rw [HO.out]; rfl, by rw [HNO.out HO.out]; exact OwnBytes.nil _ _ _, TurnIn.refl _⟩
  · have HE : Hid (errT t = false) := by show _ = _; simpa using he
    have HO : Hid (encOk8 l t = false) := encOk8_no HE.out
    clear he
    generalize hnn : l.length = n at *
    go_enter Tryd.func35, Tryd.ntmps35
    go_wp2_with fail
    refine (l8T_any _ _).mono ?_
    rintro e w' ⟨rfl, rfl⟩
    rw [HE.out]
    go_wp2_with fail
    go_ret2
    exact ⟨.slice none 0 0, by rw [HO.out]; rfl, by rw [HNO.out HO.out]; exact OwnBytes.nil _ _ _, TurnIn.refl _⟩

end Go.Proofs.YtfglkgeeelapgaaDoor
