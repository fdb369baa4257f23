/- Joined texts: IntsWalks, CorI, AsErr, CorW, Thru1. -/
import Derived.Test.YtblfobbeojdihaaGreatDoorBd02
import Derived.Test.YtblfobbeojdihaaGreatDoorBd09
import Derived.Test.YtblfobbeojdihaaGreatDoorBd12
import Derived.Test.YtblfobbeojdihaaGreatDoorBd03
import Derived.Test.YtblfobbeojdihaaGreatDoorBd07
import Derived.Deep.RegionHeld3
import Derived.Test.YtblfobbeojdihaaGreatDoorBd04
import Derived.StillTailTactics
import Derived.BigQuiet
set_option linter.unusedSimpArgs false
set_option linter.unusedVariables false
/- Contracts of the laws' helpers on []int: a copy, equality, marks, marks held. -/
namespace Go.Proofs.YtblfobbeojdihaaGreatDoor
open Go.RowKit G294

theorem infoInt : (Tryz.prog.info? 3).map (fun i => (i.zero, i.size, i.bytes)) = some (some (.int .i64 0), 1, 8) := by kernel_rfl

theorem eq_atI {l m : List Int} {k : Nat} (hl : k < l.length) (hm : k < m.length) (h : l[k] ≠ m[k]) : (l == m) = false := by
  rw [beq_eq_false_iff_ne]
  intro e; subst e; exact h rfl

theorem eq_allI {l m : List Int} (hl : l.length = m.length) (h : ∀ i (h1 : i < l.length) (h2 : i < m.length), l[i] = m[i]) : (l == m) = true := by
  rw [beq_iff_eq]; exact List.ext_getElem hl h

end Go.Proofs.YtblfobbeojdihaaGreatDoor

/- Chapter 8: the error positions and the changes: the program's. -/
namespace G294
open Go Go.RowKit
def nint (P : List Nat) : List Value := P.map fun (p : Nat) => Value.int .i64 (p : Int)
@[simp] theorem nint_length (P : List Nat) : (nint P).length = P.length := by simp [nint]
theorem nint_append (P Q : List Nat) : nint (P ++ Q) = nint P ++ nint Q := by simp [nint]
theorem nint_get (P : List Nat) (k : Nat) (h : k < P.length) : (nint P)[k]? = some (.int .i64 ((P.getD k 0 : Nat) : Int)) := by simp [nint, List.getD, h]
theorem plcs_yes {k : Nat} {l : List UInt8} (h : hor (ginv (powB 3 k)) l = 0) : plcs (k + 1) l = plcs k l ++ [k] := by
  simp [plcs, List.range_succ, List.filter_append, h]
theorem plcs_not {k : Nat} {l : List UInt8} (h : hor (ginv (powB 3 k)) l ≠ 0) : plcs (k + 1) l = plcs k l := by
  simp [plcs, List.range_succ, List.filter_append, h]
def posL (n : Nat) (s : List UInt8) : List Nat := if (plcs n (locL s)).length = locN s (s.length / 2) then plcs n (locL s) else []
theorem posL_yes {n : Nat} {s : List UInt8} (h : (plcs n (locL s)).length = locN s (s.length / 2)) : posL n s = plcs n (locL s) := if_pos h
theorem posL_no {n : Nat} {s : List UInt8} (h : ¬ (plcs n (locL s)).length = locN s (s.length / 2)) : posL n s = [] := if_neg h
def chgOk (P : List Nat) : Bool := decide (0 < P.length) && solB (plcF (corX P)) P.length
def chgL (s : List UInt8) (P : List Nat) : List UInt8 := if chgOk P = true then slvL (plcF (corX P)) P.length (s.take P.length) else []
theorem cor_ent (P : List Nat) (i j : Nat) : plcF (corX P) i j = powB 3 ((i + 1) * P.getD j 0) := by
  show powB (powB 3 (P.getD j 0)) (i + 1) = _
  rw [powB_pow, Nat.mul_comm]
end G294
namespace Go.Proofs.YtblfobbeojdihaaGreatDoor
open Go.RowKit G294

/-- positions, in a new row -/
def RetPos (w : World) (P : List Nat) (e : Ending) (w' : World) : Prop := ∃ v, e = .returned v ∧ w'.ownsRow w.heap.size 3 1 v P.length (nint P) ∧ TurnIn 0 0 w w'

set_option maxRecDepth 100000 in
set_option maxHeartbeats 1000000 in
theorem positionsBelow_own (B n : Nat) (sv : Value) (s : List UInt8) (w : World) (hc : w.cell? ⟨B, 0, none⟩ = some sv) (hs : Seen w sv (bys s)) (hok : locOk s = true) (hn : n ≤ 24) (htab : Tab w) (h0 : 3 < w.heap.size) :
    Calls Tryz.prog 39 #[.pointer (some ⟨B, 0, none⟩), .int .i64 (n : Int)] w (RetPos w (posL n s)) := by
  have HLO := Lib.hid (locatorOf_own sv s w hs htab h0)
  have HT : Hid (∀ W, TurnIn 0 0 w W → Tab W ∧ 3 < W.heap.size) := fun W h => ⟨htab.below h.to_below h0, by have := h.size; omega⟩
  have HR : Hid (locR s = locL s) := if_pos hok
  have HOK := Lib.hid hok
  obtain ⟨A, c, rfl⟩ := hs.len
  have hll := locL_length s
  have hls : (locL s).length ≤ 5 := by have := locR_len s; rwa [HR.out] at this
  have HPY := Lib.hid (@posL_yes n s)
  have HPN := Lib.hid (@posL_no n s)
  clear htab hs hok
  generalize (bys s).length = q at *
  generalize locN s (s.length / 2) = dg at *
  go_enter Tryz.func39, Tryz.ntmps39
  go_wp2_with fail
  refine HLO.out.mono ?_
  rintro e w1 ⟨v1, rfl, o1, k1⟩
  rw [HOK.out]
  rw [HR.out] at o1
  obtain ⟨A1, c1, hv1⟩ := o1.seen.len
  rw [bys_length] at hv1
  subst hv1
  have z1 := k1.size
  obtain ⟨d, hd⟩ : ∃ d, d = (locL s).length := ⟨_, rfl⟩
  have HD : Hid ((locL s).length = d) := hd.symm
  have HO1 := Lib.hid o1
  rw [← hd] at HO1 hll hls ⊢
  have HK1 := Lib.hid k1
  have HDG := Lib.hid hll
  clear hd o1 k1 hll
  go_wp2_with fail
  go_loopw [7, 18] (fun o i wr => ∃ k : Nat, k ≤ n ∧ i = .int .i64 k ∧ wr.ownsRow w1.heap.size 3 1 o (plcs k (locL s)).length (nint (plcs k (locL s))) ∧ TurnIn 0 0 w1 wr)
    (fun _ i _ => n - (intOf i).toNat)
  case atStart => exact ⟨0, Nat.zero_le _, rfl, World.ownsRow_nil _ _ _ _, TurnIn.refl _⟩
  case round =>
    obtain ⟨k, hk, rfl, ho, kr⟩ := hrel
    have zr := kr.size
    by_cases hlt : k < n
    · have hki : (k : Int) < (n : Int) := by omega
      have kk := turn_trans HK1.out kr (by omega)
      have HP := Lib.hid (powOf3 k wr (by omega) (HT.out wr kk).1)
      have HI := Lib.hid (inverse_u8 (powB 3 k) wr (HT.out wr kk).1)
      have HV := Lib.hid (valueAt_own _ (locL s) (ginv (powB 3 k)) wr (HO1.out.seen.touch kr) (by rw [HD.out]; omega) (HT.out wr kk).1 (HT.out wr kk).2)
      have HO := Lib.hid ho
      obtain ⟨t, ht⟩ : ∃ t, t = (plcs k (locL s)).length := ⟨_, rfl⟩
      have htk : t ≤ 24 := by have := plcs_len k (locL s); omega
      have HTL : Hid ((plcs k (locL s)).length = t) := ht.symm
      rw [← ht] at HO
      clear ho kk ht
      go_wp2_with fail
      refine HP.out.mono ?_
      rintro e w' ⟨rfl, rfl⟩
      go_wp2_with fail
      refine HI.out.mono ?_
      rintro e w' ⟨rfl, rfl⟩
      go_wp2_with fail
      refine HV.out.mono ?_
      rintro e w2 ⟨rfl, k2⟩
      have z2 := k2.size
      have kr2 := turn_trans kr k2 (by omega)
      have ho2 := owns_turn HO.out (fun g e => (HO.out.lt g e).2) k2 (by omega)
      obtain ⟨y, hy⟩ : ∃ y, y = hor (ginv (powB 3 k)) (locL s) := ⟨_, rfl⟩
      rw [← hy]
      by_cases hz : y = 0
      · have hzb : ((y.toNat : Int) == 0) = true := by rw [hz]; rfl
        have HPL : Hid (plcs (k + 1) (locL s) = plcs k (locL s) ++ [k]) := plcs_yes (by rw [← hy]; exact hz)
        have HO2 := Lib.hid (ho2.alloc (.cells #[.int .i64 (k : Int)] 3))
        have KA := Lib.hid (turn_trans kr2 (turn_alloc w2 (.cells #[.int .i64 (k : Int)] 3)) (by omega))
        clear hz hy ho2 HO k2
        go_wp2_with (at_builtin; refine wpList_append1 rfl _ _ _ rfl w1.heap.size 3 _ _ Tryz.underlying43 infoInt rfl _ t _ rfl HO2.out w2.heap.size (.int .i64 (k : Int)) rfl ?c1 rfl ?c2 ?c3 ?c4 ?_)
        case c1 => simp
        case c2 => omega
        case c3 => omega
        case c4 => simp; omega
        intro v' w3 hown3 hg3 _
        have k3 : TurnIn 0 0 w1 w3 := turn_trans' KA.out hg3 (fun g e => (HO2.out.lt g e).1)
        have hon : w3.ownsRow w1.heap.size 3 1 v' (plcs (k + 1) (locL s)).length (nint (plcs (k + 1) (locL s))) := by
          rw [HPL.out, nint_append, List.length_append, HTL.out]; exact hown3
        clear hown3 hg3 KA HO2
        go_wp2_with fail
        go_roundw
        case rel => exact ⟨k + 1, by omega, by go_num, hon, k3⟩
        case measure => simp [intOf]; omega
      · have hzb : ((y.toNat : Int) == 0) = false := by
          have : y.toNat ≠ 0 := fun e => hz (UInt8.toNat_inj.1 e)
          rw [beq_eq_false_iff_ne]; omega
        have hon : w2.ownsRow w1.heap.size 3 1 u7 (plcs (k + 1) (locL s)).length (nint (plcs (k + 1) (locL s))) := by
          rw [plcs_not (by rw [← hy]; exact hz), HTL.out]; exact ho2
        clear hz hy ho2 HO k2
        go_wp2_with fail
        go_roundw
        case rel => exact ⟨k + 1, by omega, by go_num, hon, kr2⟩
        case measure => simp [intOf]; omega
    · obtain rfl : k = n := by omega
      have hki : ¬ (k : Int) < (k : Int) := by omega
      have kk := turn_trans HK1.out kr (by omega)
      obtain ⟨A7, c7, h7⟩ := (Seen.of_own ho).len
      rw [nint_length] at h7
      subst h7
      obtain ⟨t, ht⟩ : ∃ t, t = (plcs k (locL s)).length := ⟨_, rfl⟩
      have HTL : Hid ((plcs k (locL s)).length = t) := ht.symm
      rw [← ht] at ho HPY HPN ⊢
      have htk : t ≤ 24 := by rw [ht]; exact Nat.le_trans (plcs_len _ _) hn
      have HO := Lib.hid ho
      clear ho ht
      have hwd : IntKind.i64.wrap ((d : Int) - 1) = (dg : Int) := by have := HDG.out; rw [IntWalk.i64_in _ (by omega)]; omega
      have hzw : w.heap.size ≤ w1.heap.size := z1
      by_cases he : t = dg
      · have HP := Lib.hid (HPY.out he)
        have hne : ((t : Int) != (dg : Int)) = false := by rw [he]; simp
        clear HPY HPN he
        go_wp2_with fail
        go_ret
        refine ⟨_, rfl, ?_, kk⟩
        rw [HP.out, HTL.out]
        exact own_base HO.out hzw
      · have HP := Lib.hid (HPN.out he)
        have hne : ((t : Int) != (dg : Int)) = true := by rw [bne_iff_ne]; omega
        clear HPY HPN he
        go_wp2_with fail
        go_ret
        refine ⟨_, rfl, ?_, kk⟩
        rw [HP.out]
        exact World.ownsRow_nil _ _ _ _

set_option maxRecDepth 100000 in
set_option maxHeartbeats 1000000 in
theorem changesAt1 (n Bv : Nat) (P : List Nat) (v : Value) (w : World) (hBv : Bv < w.heap.size) (hn : n ≤ 100) (hP : P.length = n) (hb24 : ∀ j, j < n → P.getD j 0 < 24) (hn4 : n ≤ 24) (hv : w.cell? ⟨Bv, 0, none⟩ = some v) (hs : Seen w v (nint P)) (htab : Tab w) (h0 : 3 < w.heap.size) :
    GivesAt Tryz.prog 75 #[.pointer (some ⟨Bv, 0, none⟩)] n n (plcF (corX P)) w := by
  intro W i j hb hi hj
  have hv' := (hb.cell (p := ⟨Bv, 0, none⟩) hBv).trans hv
  obtain ⟨A, c, rfl, hlc, hcm, hx⟩ := hs.below hb
  rw [nint_length, hP] at hlc hx hv'
  obtain ⟨bb, off, rfl, hbb, hcell⟩ := hx (by omega)
  have hci := hcell j _ (nint_get P j (by omega))
  have hpj := hb24 j hj
  have HF : Hid (plcF (corX P) i j = powB 3 ((i + 1) * P.getD j 0)) := cor_ent P i j
  generalize P.getD j 0 = p at *
  obtain ⟨z, hz⟩ : ∃ z, z = (i + 1) * p := ⟨_, rfl⟩
  have hzb : z ≤ 1000 := by rw [hz]; exact Nat.le_trans (Nat.mul_le_mul (show i + 1 ≤ 24 by omega) (show p ≤ 24 by omega)) (by decide)
  have hmul : ((i : Int) + 1) * (p : Int) = (z : Int) := by rw [hz]; simp
  rw [← hz] at HF
  have HP := Lib.hid (powOf3 z W (by omega) (htab.below hb h0))
  have hji : (j : Int) < (n : Int) := by omega
  unfold maxLen at hcm
  have hzw : IntKind.i64.wrap (z : Int) = (z : Int) := IntWalk.i64_in _ (by omega)
  clear hcell hx hs hv hz htab
  go_enter Tryz.func75, Tryz.ntmps75
  go_wp2_with fail
  refine HP.out.mono ?_
  rintro e w' ⟨rfl, rfl⟩
  go_wp2_with fail
  go_ret
  exact ⟨by rw [HF.out]; rfl, 0, rfl⟩

theorem sliceHb (b off len cap h : Nat) (hc : h ≤ cap) (h0 : 0 < cap) (W : World) : (Instr.slice 22 (.slice (some ⟨b, off, none⟩) len cap) none (some (.int .i64 (h : Int))) none).run Tryz.prog W = .ok (.slice (some ⟨b, off, none⟩) h cap) W := by
  have hel : (sizeOf (Tryz.prog.elem 22)).run Tryz.prog W = .ok 1 W := by kernel_rfl
  rw [run_slice_h W 22 _ len cap (by kernel_rfl) .i64 h (by omega) (by omega), hel]
  simp [Result.andThen, sliced, Addr.add]

theorem sliceH (b off len cap h : Nat) (hc : h ≤ cap) (h0 : 0 < cap) (W : World) : (Instr.sliceAt 22 (.slice (some ⟨b, off, none⟩) len cap) none (some (.int .i64 (h : Int))) none).run Tryz.prog W = .ok (.slice (some ⟨b, off, none⟩) h cap) W := by
  rw [run_sliceAt_slice W 22 _ _ _ _ (by kernel_rfl)]
  exact sliceHb b off len cap h hc h0 W

set_option maxRecDepth 100000 in
set_option maxHeartbeats 2000000 in
theorem changesAt_own (B n : Nat) (sv v : Value) (s : List UInt8) (P : List Nat) (w : World) (hc : w.cell? ⟨B, 0, none⟩ = some sv) (hBl : B < w.heap.size) (hs : Seen w sv (bys s)) (hP : P.length = n) (hv : Seen w v (nint P)) (h1 : 1 ≤ s.length) (hns : n ≤ s.length) (hs8 : s.length ≤ 8) (hb24 : ∀ j, j < n → P.getD j 0 < 24) (htab : Tab w) (h0 : 3 < w.heap.size) :
    Calls Tryz.prog 40 #[.pointer (some ⟨B, 0, none⟩), v] w (RetBytesOk 5 w (chgL s P) (chgOk P)) := by
  have qa := alloc_cell w v 43
  have ka := turn_alloc w (.cells #[v] 43)
  have za := World.size_alloc w (.cells #[v] 43)
  have hcA := cell_turn ka hc hBl
  have HT : Hid (∀ W, TurnIn 0 0 w W → Tab W ∧ 3 < W.heap.size) := fun W h => ⟨htab.below h.to_below h0, by have := h.size; omega⟩
  have HG := Lib.hid (changesAt1 n w.heap.size P v (w.alloc (.cells #[v] 43)) (by rw [za]; omega) (by omega) hP hb24 (by omega) qa (hv.touch ka) (HT.out _ ka).1 (HT.out _ ka).2)
  have eg := enters_of Tryz.func75 (by kernel_rfl) rfl
  obtain ⟨b, off, cs, rfl, hbl, hsm, hcell⟩ := seen_cellsB hs h1
  have HSA := Lib.hid (hs.touch ka)
  obtain ⟨A, c, rfl⟩ := hv.len
  have HPP := Lib.hid hP
  rw [nint_length, hP] at qa ka za hcA HG HSA hv ⊢
  have hcs : s.length ≤ cs ∧ cs ≤ maxLen := by
    obtain ⟨_, _, e, h1, h2, _⟩ := hs
    simp only [Value.slice.injEq, bys_length] at e h1
    exact ⟨by omega, by omega⟩
  obtain ⟨hcs, hcsm⟩ := hcs
  have HCSM := Lib.hid hcsm
  have HTK : Hid ((s.take n).length = n) := by show _ = _; rw [List.length_take]; omega
  have HSUB : Hid (∀ W, TurnIn 0 0 w W → 0 < n → Seen W (.slice (some ⟨b, off, none⟩) n cs) (bys (s.take n))) := fun W h hn => by
    obtain ⟨b', off', e, hr⟩ := sub_row (hs.touch h) (a := 0) (m := n) hn (by omega)
    simp only [Option.some.injEq, Addr.mk.injEq, and_true] at e
    obtain ⟨rfl, rfl⟩ := e
    simpa using hr
  have hsl1 := sliceH b off s.length cs n (by omega) (by omega)
  have hsl2 := sliceHb b off s.length cs n (by omega) (by omega)
  have HCY : Hid (0 < n → chgOk P = solB (plcF (corX P)) n ∧ chgL s P = slvF' (plcF (corX P)) n (s.take n)) := fun hn => by
    have e : chgOk P = solB (plcF (corX P)) n := by unfold chgOk; rw [HPP.out, show decide (0 < n) = true by simpa using hn, Bool.true_and]
    refine ⟨e, ?_⟩
    unfold chgL slvF'
    rw [e, HPP.out]
  have HCN : Hid (n = 0 → chgOk P = slvOk (mkM 0 0 (plcF (corX P))) [] ∧ chgL s P = slvR (mkM 0 0 (plcF (corX P))) []) := fun hn => by
    have e : chgOk P = false := by unfold chgOk; rw [HPP.out, hn]; rfl
    have e2 : slvOk (mkM 0 0 (plcF (corX P))) [] = false := by unfold slvOk squareM goodM; simp
    refine ⟨e.trans e2.symm, ?_⟩
    unfold chgL slvR
    rw [e, e2]; simp
  clear hs hv hcell hc htab
  generalize s.length = q at *
  have KA := Lib.hid ka
  go_enter Tryz.func40, Tryz.ntmps40
  go_wp2_with fail
  generalize hWa : w.alloc (.cells #[.slice A n c] 43) = Wa at *
  clear hWa
  refine (newGridB n n _ _ _ Wa eg HG.out (by omega) (by omega)).mono ?_
  rintro e w1 ⟨v1, vs1, rfl, o1, k1⟩
  have kk1 := turn_trans KA.out k1 (by omega)
  have c1 := cell_turn k1 qa (by omega)
  have c2 := cell_turn k1 hcA (by omega)
  have z1 := k1.size
  have HK1 := Lib.hid (turn_drewA kk1)
  obtain ⟨A1, n1, cc1, rfl⟩ := o1.isSlice
  have HO1 := Lib.hid o1
  clear qa hcA ka KA kk1 HG eg o1
  by_cases hn0 : 0 < n
  · have HP1 := Lib.hid (HCY.out hn0)
    have HSO := Lib.hid (solveF_own n (plcF (corX P)) (.slice A1 n1 cc1) (.slice (some ⟨b, off, none⟩) n cs) (s.take n) w1.drew (HO1.out.seen) (HSUB.out _ HK1.out hn0) hn0 (by omega) HTK.out (HT.out _ HK1.out).1 (HT.out _ HK1.out).2)
    clear k1
    go_wp2_with fail
    go_region_held3 (fun W => W.cell? ⟨w.heap.size, 0, none⟩ = some (.slice A n c) ∧ W.cell? ⟨B, 0, none⟩ = some (.slice (some ⟨b, off, none⟩) q cs))
      (first | exact ⟨c1, c2⟩ | exact ⟨d1, d2⟩)
      ((go_at_call 54; refine HSO.out.mono ?_; rintro e w2 ⟨v2, rfl, o2, k2⟩; have d1 := cell_turn k2 (show w1.drew.cell? _ = _ from c1) (show _ < w1.heap.size by omega); have d2 := cell_turn k2 (show w1.drew.cell? _ = _ from c2) (show _ < w1.heap.size by omega)))
    go_wp2_with fail
    go_ret2
    exact ⟨v2, by rw [HP1.out.1]; rfl, by rw [HP1.out.2]; exact o2.wider (show w.heap.size ≤ w1.heap.size by omega) (Nat.le_refl _) (Nat.le_refl _), turn_trans HK1.out k2 (by omega)⟩
  · obtain rfl : n = 0 := by omega
    have HP1 := Lib.hid (HCN.out rfl)
    have HSO := Lib.hid (solve_own (.slice A1 n1 cc1) (.slice (some ⟨b, off, none⟩) 0 cs) (mkM 0 0 (plcF (corX P))) [] w1.drew (HO1.out.seen) ⟨some ⟨b, off, none⟩, cs, rfl, Nat.zero_le _, HCSM.out, fun h => absurd h (Nat.lt_irrefl _)⟩ (HT.out _ HK1.out).1 (HT.out _ HK1.out).2)
    clear k1
    go_wp2_with fail
    go_region_held3 (fun W => W.cell? ⟨w.heap.size, 0, none⟩ = some (.slice A 0 c) ∧ W.cell? ⟨B, 0, none⟩ = some (.slice (some ⟨b, off, none⟩) q cs))
      (first | exact ⟨c1, c2⟩ | exact ⟨d1, d2⟩)
      ((go_at_call 54; refine HSO.out.mono ?_; rintro e w2 ⟨v2, rfl, o2, k2⟩; have d1 := cell_turn k2 (show w1.drew.cell? _ = _ from c1) (show _ < w1.heap.size by omega); have d2 := cell_turn k2 (show w1.drew.cell? _ = _ from c2) (show _ < w1.heap.size by omega)))
    go_wp2_with fail
    go_ret2
    exact ⟨v2, by rw [HP1.out.1]; rfl, by rw [HP1.out.2]; exact o2.wider (show w.heap.size ≤ w1.heap.size by omega) (Nat.le_refl _) (Nat.le_refl _), turn_trans HK1.out k2 (by omega)⟩

end Go.Proofs.YtblfobbeojdihaaGreatDoor

/- errors.As at a *wrongBytes variable: a *wrongBytes is found, a sentinel is not. -/
namespace Go.Proofs.YtblfobbeojdihaaGreatDoor
open Go.RowKit Go.Extern.Stop Go.Stop Go.Extern G294

theorem avalueOfT (t : Addr) (w : World) : (ReflectliteValue.unpack (.iface 58 (.pointer (some t)))).run Tryz.prog w
    = .ok (.agg #[.pointer (some ⟨4, 58, none⟩), .pointer (some ⟨w.heap.size, 0, none⟩), .int .u64 150]) (w.alloc (.cells #[.pointer (some t)] 58)) := by kernel_rfl

theorem atypeT (a : Addr) (w : World) : (ReflectliteValue.methodAny (ReflectliteValue.valueError "reflectlite.Value.Type" 0) (fun t _ _ _ => ReflectliteType.toType t) #[.agg #[.pointer (some ⟨4, 58, none⟩), .pointer (some a), .int .u64 150]]).run Tryz.prog w
    = .ok (.iface 128 (.agg #[.pointer (some ⟨4, 58, none⟩)])) w := by kernel_rfl

theorem amethodKind (h : Value) (w : World) : (Go.method 292 128 (.agg #[h]) "Kind").run Tryz.prog w = .ok (129, h) w := by kernel_rfl

theorem akindT (w : World) : ((ReflectliteType.abiMethod fun t => (fun a : Nat => Value.int IntKind.u8 (a : Int)) <$> Rtype.kind t) #[.pointer (some ⟨4, 58, none⟩)]).run Tryz.prog w = .ok (.int .u8 22) w := by kernel_rfl

theorem akindE (w : World) : ((ReflectliteType.abiMethod fun t => (fun a : Nat => Value.int IntKind.u8 (a : Int)) <$> Rtype.kind t) #[.pointer (some ⟨4, 56, none⟩)]).run Tryz.prog w = .ok (.int .u8 22) w := by kernel_rfl

theorem armethod (z : Sem Value) (f : TypeId → Addr → Nat → Nat → Sem Value) (v : Value) :
    ReflectliteValue.method z f #[v] = (do match ← ReflectliteValue.parts v with | none => z | some (t, a, fl) => f t a fl (fl % 32)) := rfl

theorem apartsT (a : Addr) (w : World) : (ReflectliteValue.parts (.agg #[.pointer (some ⟨4, 58, none⟩), .pointer (some a), .int .u64 150])).run Tryz.prog w = .ok (some (58, a, 150)) w := by kernel_rfl

theorem aisNilT (a p : Addr) (W : World) (ha : W.cell? a = some (.pointer (some p))) :
    (ReflectliteValue.method (ReflectliteValue.valueError "reflectlite.Value.IsNil" 0) ReflectliteValue.isNil #[.agg #[.pointer (some ⟨4, 58, none⟩), .pointer (some a), .int .u64 150]]).run Tryz.prog W = .ok (.bool false) W := by
  rw [armethod]
  simp only [Sem.run_bind, apartsT, Result.andThen]
  simp [ReflectliteValue.isNil, loadVar, isAgg, underlying, Tryz.underlying58, ha, Result.andThen]

theorem amethodElem (h : Value) (w : World) : (Go.method 292 128 (.agg #[h]) "Elem").run Tryz.prog w = .ok (143, .agg #[h]) w := by kernel_rfl

theorem amethodImplements (h : Value) (w : World) : (Go.method 292 128 (.agg #[h]) "Implements").run Tryz.prog w = .ok (144, .agg #[h]) w := by kernel_rfl

theorem amethodAssignable (h : Value) (w : World) : (Go.method 292 128 (.agg #[h]) "AssignableTo").run Tryz.prog w = .ok (141, .agg #[h]) w := by kernel_rfl

theorem aelemT (w : World) : (ReflectliteType.method ReflectliteType.elem #[.agg #[.pointer (some ⟨4, 58, none⟩)]]).run Tryz.prog w = .ok (.iface 128 (.agg #[.pointer (some ⟨4, 56, none⟩)])) w := by kernel_rfl

theorem aimplements (w : World) : (ReflectliteType.relation "Implements" ReflectliteType.implements_ #[.agg #[.pointer (some ⟨4, 56, none⟩)], .iface 128 (.agg #[.pointer (some ⟨4, 50, none⟩)])]).run Tryz.prog w = .ok (.bool true) w := by kernel_rfl

theorem atypeOfE (v : Value) (w : World) : (ReflectliteType.typeOf #[.iface 56 v]).run Tryz.prog w = .ok (.iface 128 (.agg #[.pointer (some ⟨4, 56, none⟩)])) w := by kernel_rfl

theorem aassignE (w : World) : (ReflectliteType.relation "AssignableTo" ReflectliteType.assignableTo #[.agg #[.pointer (some ⟨4, 56, none⟩)], .iface 128 (.agg #[.pointer (some ⟨4, 56, none⟩)])]).run Tryz.prog w = .ok (.bool true) w := by kernel_rfl

theorem aassignS (w : World) : (ReflectliteType.relation "AssignableTo" ReflectliteType.assignableTo #[.agg #[.pointer (some ⟨4, 160, none⟩)], .iface 128 (.agg #[.pointer (some ⟨4, 56, none⟩)])]).run Tryz.prog w = .ok (.bool false) w := by kernel_rfl

theorem avalueOfE (e : Addr) (w : World) : (ReflectliteValue.unpack (.iface 56 (.pointer (some e)))).run Tryz.prog w
    = .ok (.agg #[.pointer (some ⟨4, 56, none⟩), .pointer (some ⟨w.heap.size, 0, none⟩), .int .u64 150]) (w.alloc (.cells #[.pointer (some e)] 56)) := by kernel_rfl

theorem aelemOfT (w : World) : (Rtype.elem? 58).run Tryz.prog w = .ok (some 56) w := by kernel_rfl

theorem amkE (p : Addr) (w : World) : (ReflectliteValue.mk 56 p ReflectliteValue.flagAddr).run Tryz.prog w = .ok (.agg #[.pointer (some ⟨4, 56, none⟩), .pointer (some p), .int .u64 406]) w := by kernel_rfl

theorem aelemV (a p : Addr) (W : World) (ha : W.cell? a = some (.pointer (some p))) :
    (ReflectliteValue.method (ReflectliteValue.valueError "reflectlite.Value.Elem" 0) ReflectliteValue.elem #[.agg #[.pointer (some ⟨4, 58, none⟩), .pointer (some a), .int .u64 150]]).run Tryz.prog W
      = .ok (.agg #[.pointer (some ⟨4, 56, none⟩), .pointer (some p), .int .u64 406]) W := by
  rw [armethod]
  simp only [Sem.run_bind, apartsT, Result.andThen]
  simp [ReflectliteValue.elem, loadVar, isAgg, underlying, Tryz.underlying58, ha, Result.andThen, aelemOfT, amkE]

theorem apartsEa (a : Addr) (w : World) : (ReflectliteValue.parts (.agg #[.pointer (some ⟨4, 56, none⟩), .pointer (some a), .int .u64 406])).run Tryz.prog w = .ok (some (56, a, 406)) w := by kernel_rfl

theorem apartsE (a : Addr) (w : World) : (ReflectliteValue.parts (.agg #[.pointer (some ⟨4, 56, none⟩), .pointer (some a), .int .u64 150])).run Tryz.prog w = .ok (some (56, a, 150)) w := by kernel_rfl

theorem adirectE (w : World) : (Rtype.directlyAssignable 56 56).run Tryz.prog w = .ok true w := by kernel_rfl

theorem asetE (ta b e : Addr) (old : Value) (W : World) (hb : W.cell? b = some (.pointer (some e))) (ht : W.cell? ta = some old) (hf : W.frozen? ta = false) :
    (ReflectliteValue.set #[.agg #[.pointer (some ⟨4, 56, none⟩), .pointer (some ta), .int .u64 406], .agg #[.pointer (some ⟨4, 56, none⟩), .pointer (some b), .int .u64 150]]).run Tryz.prog W
      = .ok (.tuple #[]) (W.setCell ta (.pointer (some e))) := by
  rw [show ReflectliteValue.set #[.agg #[.pointer (some ⟨4, 56, none⟩), .pointer (some ta), .int .u64 406], .agg #[.pointer (some ⟨4, 56, none⟩), .pointer (some b), .int .u64 150]] = (ReflectliteValue.parts (.agg #[.pointer (some ⟨4, 56, none⟩), .pointer (some ta), .int .u64 406]) >>= _) from rfl]
  simp only [Sem.run_bind, apartsEa, Result.andThen, Array.getLit, List.getElem_toArray, List.getElem_cons_succ, List.getElem_cons_zero]
  simp only [Sem.run_bind, apartsE, Result.andThen]
  simp [ReflectliteValue.flagAddr, loadVar, isAgg, underlying, Tryz.underlying56, hb, Result.andThen, adirectE, storeVar, Value.cells, storeCells, Addr.add]
  rw [run_store Tryz.prog W ta _ _ (by rfl)]
  simp [ht, hf]

theorem noAsS (v : Value) (xT : TypeId) (w : World) : (Instr.typeAssert (.iface 160 v) xT 140 true).run Tryz.prog w = .ok (.tuple #[.nilIface, .bool false]) w := run_typeAssert_lacksB Tryz.underlying140 (by kernel_rfl) (by kernel_rfl) v xT w

set_option maxRecDepth 100000 in
set_option maxHeartbeats 4000000 in
theorem as_hit (e : Addr) (B : Nat) (old : Value) (w : World) (hg : w.cell? ⟨2, 0, none⟩ = some (.iface 128 (.agg #[.pointer (some ⟨4, 50, none⟩)]))) (hgl : 2 < w.heap.size) (ht0 : w.cell? ⟨B, 0, none⟩ = some old) (hf0 : w.frozen? ⟨B, 0, none⟩ = false) (htl : B < w.heap.size) :
    Calls Tryz.prog 38 #[.iface 56 (.pointer (some e)), .iface 58 (.pointer (some ⟨B, 0, none⟩))] w fun ev w' => ev = .returned (.bool true) ∧ w'.cell? ⟨B, 0, none⟩ = some (.pointer (some e)) ∧ TurnIn B (B + 1) w w' := by
  have h6 := @run_callFunc_extern Tryz.prog 69 _ (fun args => ReflectliteValue.unpack (args.getD 0 (.tuple #[]))) Tryz.func69 (by kernel_rfl) (by kernel_rfl) (by kernel_rfl) (by kernel_rfl)
  have h7 := @run_callFunc_extern Tryz.prog 70 _ (ReflectliteValue.methodAny (ReflectliteValue.valueError "reflectlite.Value.Type" 0) (fun t _ _ _ => ReflectliteType.toType t)) Tryz.func70 (by kernel_rfl) (by kernel_rfl) (by kernel_rfl) (by kernel_rfl)
  have h8 := @run_callFunc_extern Tryz.prog 71 _ (ReflectliteValue.method (ReflectliteValue.valueError "reflectlite.Value.IsNil" 0) ReflectliteValue.isNil) Tryz.func71 (by kernel_rfl) (by kernel_rfl) (by kernel_rfl) (by kernel_rfl)
  have h27 := @run_callFunc_extern Tryz.prog 129 _ (ReflectliteType.abiMethod fun t => do pure (.int .u8 (← Rtype.kind t))) Tryz.func129 (by kernel_rfl) (by kernel_rfl) (by kernel_rfl) (by kernel_rfl)
  have h37 := @run_callFunc_extern Tryz.prog 143 _ (ReflectliteType.method ReflectliteType.elem) Tryz.func143 (by kernel_rfl) (by kernel_rfl) (by kernel_rfl) (by kernel_rfl)
  have h38 := @run_callFunc_extern Tryz.prog 144 _ (ReflectliteType.relation "Implements" ReflectliteType.implements_) Tryz.func144 (by kernel_rfl) (by kernel_rfl) (by kernel_rfl) (by kernel_rfl)
  have h10 := @run_callFunc_extern Tryz.prog 66 _ ReflectliteType.typeOf Tryz.func66 (by kernel_rfl) (by kernel_rfl) (by kernel_rfl) (by kernel_rfl)
  have h35 := @run_callFunc_extern Tryz.prog 141 _ (ReflectliteType.relation "AssignableTo" ReflectliteType.assignableTo) Tryz.func141 (by kernel_rfl) (by kernel_rfl) (by kernel_rfl) (by kernel_rfl)
  have h11 := @run_callFunc_extern Tryz.prog 92 _ (ReflectliteValue.method (ReflectliteValue.valueError "reflectlite.Value.Elem" 0) ReflectliteValue.elem) Tryz.func92 (by kernel_rfl) (by kernel_rfl) (by kernel_rfl) (by kernel_rfl)
  have h12 := @run_callFunc_extern Tryz.prog 93 _ ReflectliteValue.set Tryz.func93 (by kernel_rfl) (by kernel_rfl) (by kernel_rfl) (by kernel_rfl)
  have tO := atypeOfE
  have mA := amethodAssignable
  have a25 := aassignE
  have v25 := avalueOfE
  have f6 := avalueOfT
  have f7 := atypeT
  have mK := amethodKind
  have mE := amethodElem
  have mI := amethodImplements
  have k27 := akindT
  have k25 := akindE
  have e27 := aelemT
  have i25 := aimplements
  have k1 := turn_alloc w (.cells #[.pointer (some ⟨B, 0, none⟩)] 58)
  have k2 := turn_trans k1 (turn_alloc (w.alloc (.cells #[.pointer (some ⟨B, 0, none⟩)] 58)) (.cells #[.pointer (some ⟨4, 58, none⟩), .pointer (some ⟨w.heap.size, 0, none⟩), .int .u64 150] 94)) (by omega)
  have k3 := turn_trans k2 (turn_alloc ((w.alloc (.cells #[.pointer (some ⟨B, 0, none⟩)] 58)).alloc (.cells #[.pointer (some ⟨4, 58, none⟩), .pointer (some ⟨w.heap.size, 0, none⟩), .int .u64 150] 94)) (.cells #[.pointer (some ⟨4, 58, none⟩), .pointer (some ⟨w.heap.size, 0, none⟩), .int .u64 150] 94)) (by omega)
  have k4 := turn_trans k3 (turn_alloc (((w.alloc (.cells #[.pointer (some ⟨B, 0, none⟩)] 58)).alloc (.cells #[.pointer (some ⟨4, 58, none⟩), .pointer (some ⟨w.heap.size, 0, none⟩), .int .u64 150] 94)).alloc (.cells #[.pointer (some ⟨4, 58, none⟩), .pointer (some ⟨w.heap.size, 0, none⟩), .int .u64 150] 94)) (.cells #[.pointer (some e)] 56)) (by omega)
  have n8 := aisNilT ⟨w.heap.size, 0, none⟩ ⟨B, 0, none⟩ ((w.alloc (.cells #[.pointer (some ⟨B, 0, none⟩)] 58)).alloc (.cells #[.pointer (some ⟨4, 58, none⟩), .pointer (some ⟨w.heap.size, 0, none⟩), .int .u64 150] 94)) (by simp)
  have hg2 := cell_turn k2 hg hgl
  have el := aelemV ⟨w.heap.size, 0, none⟩ ⟨B, 0, none⟩ (((w.alloc (.cells #[.pointer (some ⟨B, 0, none⟩)] 58)).alloc (.cells #[.pointer (some ⟨4, 58, none⟩), .pointer (some ⟨w.heap.size, 0, none⟩), .int .u64 150] 94)).alloc (.cells #[.pointer (some ⟨4, 58, none⟩), .pointer (some ⟨w.heap.size, 0, none⟩), .int .u64 150] 94)) (by rw [World.cell?_alloc_lt _ _ ⟨w.heap.size, 0, none⟩ (by simp; omega)]; simp)
  have st := asetE ⟨B, 0, none⟩ ⟨w.heap.size + 1 + 1 + 1, 0, none⟩ e old ((((w.alloc (.cells #[.pointer (some ⟨B, 0, none⟩)] 58)).alloc (.cells #[.pointer (some ⟨4, 58, none⟩), .pointer (some ⟨w.heap.size, 0, none⟩), .int .u64 150] 94)).alloc (.cells #[.pointer (some ⟨4, 58, none⟩), .pointer (some ⟨w.heap.size, 0, none⟩), .int .u64 150] 94)).alloc (.cells #[.pointer (some e)] 56))
    (by rw [World.cell?_alloc_at _ _ _ _ (by simp)]; rfl) (cell_turn k4 ht0 htl) (frozen_turn k4 hf0 htl)
  have HK4 := Lib.hid k4
  have HT4 := Lib.hid (cell_turn k4 ht0 htl)
  clear k1 k2 k3 k4
  go_enter Tryz.func38, Tryz.ntmps38
  go_wp2
  refine wp_loop_rounds 1 ?_
  rw [rounds_succ]
  go_wp2
  go_ret
  exact ⟨rfl, World.cell?_setCell_same _ _ _ HT4.out, turn_trans (⟨HK4.out.os, HK4.out.tape, HK4.out.output, HK4.out.size, fun k h1 _ => HK4.out.block k h1 (by omega)⟩ : TurnIn B (B + 1) w _) (turn_setCell _ B 0 _) (by omega)⟩


set_option maxRecDepth 100000 in
set_option maxHeartbeats 4000000 in
theorem as_miss (e : Addr) (B : Nat) (w : World) (hg : w.cell? ⟨2, 0, none⟩ = some (.iface 128 (.agg #[.pointer (some ⟨4, 50, none⟩)]))) (hgl : 2 < w.heap.size) :
    Calls Tryz.prog 38 #[.iface 160 (.pointer (some e)), .iface 58 (.pointer (some ⟨B, 0, none⟩))] w fun ev w' => ev = .returned (.bool false) ∧ TurnIn 0 0 w w' := by
  have h6 := @run_callFunc_extern Tryz.prog 69 _ (fun args => ReflectliteValue.unpack (args.getD 0 (.tuple #[]))) Tryz.func69 (by kernel_rfl) (by kernel_rfl) (by kernel_rfl) (by kernel_rfl)
  have h7 := @run_callFunc_extern Tryz.prog 70 _ (ReflectliteValue.methodAny (ReflectliteValue.valueError "reflectlite.Value.Type" 0) (fun t _ _ _ => ReflectliteType.toType t)) Tryz.func70 (by kernel_rfl) (by kernel_rfl) (by kernel_rfl) (by kernel_rfl)
  have h8 := @run_callFunc_extern Tryz.prog 71 _ (ReflectliteValue.method (ReflectliteValue.valueError "reflectlite.Value.IsNil" 0) ReflectliteValue.isNil) Tryz.func71 (by kernel_rfl) (by kernel_rfl) (by kernel_rfl) (by kernel_rfl)
  have h27 := @run_callFunc_extern Tryz.prog 129 _ (ReflectliteType.abiMethod fun t => do pure (.int .u8 (← Rtype.kind t))) Tryz.func129 (by kernel_rfl) (by kernel_rfl) (by kernel_rfl) (by kernel_rfl)
  have h37 := @run_callFunc_extern Tryz.prog 143 _ (ReflectliteType.method ReflectliteType.elem) Tryz.func143 (by kernel_rfl) (by kernel_rfl) (by kernel_rfl) (by kernel_rfl)
  have h38 := @run_callFunc_extern Tryz.prog 144 _ (ReflectliteType.relation "Implements" ReflectliteType.implements_) Tryz.func144 (by kernel_rfl) (by kernel_rfl) (by kernel_rfl) (by kernel_rfl)
  have h10 := @run_callFunc_extern Tryz.prog 66 _ ReflectliteType.typeOf Tryz.func66 (by kernel_rfl) (by kernel_rfl) (by kernel_rfl) (by kernel_rfl)
  have h35 := @run_callFunc_extern Tryz.prog 141 _ (ReflectliteType.relation "AssignableTo" ReflectliteType.assignableTo) Tryz.func141 (by kernel_rfl) (by kernel_rfl) (by kernel_rfl) (by kernel_rfl)
  have tO := isTypeOf
  have mA := amethodAssignable
  have a25 := aassignS
  have nA := noAsS
  have uE := noUnwrapE
  have vE := noUnwrapsE
  have f6 := avalueOfT
  have f7 := atypeT
  have mK := amethodKind
  have mE := amethodElem
  have mI := amethodImplements
  have k27 := akindT
  have k25 := akindE
  have e27 := aelemT
  have i25 := aimplements
  have k1 := turn_alloc w (.cells #[.pointer (some ⟨B, 0, none⟩)] 58)
  have k2 := turn_trans k1 (turn_alloc (w.alloc (.cells #[.pointer (some ⟨B, 0, none⟩)] 58)) (.cells #[.pointer (some ⟨4, 58, none⟩), .pointer (some ⟨w.heap.size, 0, none⟩), .int .u64 150] 94)) (by omega)
  have k3 := turn_trans k2 (turn_alloc ((w.alloc (.cells #[.pointer (some ⟨B, 0, none⟩)] 58)).alloc (.cells #[.pointer (some ⟨4, 58, none⟩), .pointer (some ⟨w.heap.size, 0, none⟩), .int .u64 150] 94)) (.cells #[.pointer (some ⟨4, 58, none⟩), .pointer (some ⟨w.heap.size, 0, none⟩), .int .u64 150] 94)) (by omega)
  have n8 := aisNilT ⟨w.heap.size, 0, none⟩ ⟨B, 0, none⟩ ((w.alloc (.cells #[.pointer (some ⟨B, 0, none⟩)] 58)).alloc (.cells #[.pointer (some ⟨4, 58, none⟩), .pointer (some ⟨w.heap.size, 0, none⟩), .int .u64 150] 94)) (by simp)
  have hg2 := cell_turn k2 hg hgl
  have HK3 := Lib.hid k3
  clear k1 k2 k3
  go_enter Tryz.func38, Tryz.ntmps38
  go_wp2
  refine wp_loop_rounds 1 ?_
  rw [rounds_succ]
  go_wp2
  go_ret
  exact ⟨rfl, HK3.out⟩

end Go.Proofs.YtblfobbeojdihaaGreatDoor

/- Chapter 8: CorrectWord: the program's. -/
namespace G294
open Go Go.RowKit
def RetCor (E : TypeId) (w : World) (l : List UInt8) (n : Int) (ok : Bool) (e : Ending) (w' : World) : Prop := ∃ v, e = .returned (.tuple #[v, .int .i64 n, .bool ok]) ∧ OwnBytes E w' w.heap.size w'.heap.size v l ∧ TurnIn 0 0 w w'
theorem corR_len (w : List UInt8) (t : Int) : (corR w t).length ≤ 24 := by
  unfold corR corO
  by_cases hf : fitW w t = true
  · rw [if_pos hf]
    have h24 : w.length ≤ 24 := by simp only [fitW, Bool.and_eq_true, decide_eq_true_eq] at hf; omega
    unfold corAt
    split
    · simpa using h24
    · split
      · simp
      · split
        · simpa using h24
        · simp
  · rw [if_neg hf]; simp
/-- the changes are the ones that account for the first syndromes -/
theorem chg_cor {s : List UInt8} {P : List Nat} {n : Nat} (hP : ∀ i j, i < j → j < P.length → P.getD i 0 < P.getD j 0) (hb : ∀ j, j < P.length → P.getD j 0 < n) (hn : n ≤ 24) (h0 : 0 < P.length) (hs : P.length ≤ s.length) :
    chgOk P = true ∧ chgL s P = mkRow P.length (corE s P) := by
  have hf : solB (plcF (corX P)) P.length = true := by
    show decide _ = true
    rw [decide_eq_true_eq]
    exact plc_full (corX_apart hP hb hn) (fun k _ => corX_ne P k)
  have e : chgOk P = true := by unfold chgOk; rw [hf]; simpa using h0
  refine ⟨e, ?_⟩
  unfold chgL slvL
  rw [if_pos e]
  refine mkRow_congr fun i hi => ?_
  unfold corE
  rw [bst_lin _ _ _ _ _ _ hi, bst_lin _ _ _ _ _ _ hi]
  refine sumK_congr fun k hk => ?_
  congr 1
  show (s.take P.length).getD k 0 = s.getD k 0
  simp [List.getD, List.getElem?_take, hk]
theorem chg_none (s : List UInt8) : chgOk [] = false := rfl
/-- what the wrong word's case answers -/
theorem cor_short {l : List UInt8} {m : Nat} (hz : isWR l (m : Int) = false) (hf : fitW l (m : Int) = true) (h : (plcs l.length (locL (synL l (2 * m)))).length = 0 ∨ (plcs l.length (locL (synL l (2 * m)))).length ≠ locN (synL l (2 * m)) ((synL l (2 * m)).length / 2)) :
    corR l (m : Int) = [] ∧ corN l (m : Int) = 0 ∧ corOk l (m : Int) = false := by
  have hz' : ¬ zeroL (synL l (2 * m)) = true := by
    intro h'; rw [isWR, hf] at hz; simp [h'] at hz
  have e : corO l (m : Int) = none := by
    unfold corO; rw [if_pos hf, Int.toNat_natCast]; unfold corAt
    rw [if_neg hz', if_pos h]
  unfold corR corN corOk
  rw [e]; exact ⟨rfl, rfl, rfl⟩
theorem cor_long {l : List UInt8} {m : Nat} {P : List Nat} (hz : isWR l (m : Int) = false) (hf : fitW l (m : Int) = true) (hp : P = plcs l.length (locL (synL l (2 * m)))) (h0 : P.length ≠ 0) (h : P.length = locN (synL l (2 * m)) ((synL l (2 * m)).length / 2)) :
    (zeroL (synL (putE l P (corE (synL l (2 * m)) P) P.length) (2 * m)) = true → corR l (m : Int) = putE l P (corE (synL l (2 * m)) P) P.length ∧ corN l (m : Int) = (P.length : Int) ∧ corOk l (m : Int) = true) ∧
    (zeroL (synL (putE l P (corE (synL l (2 * m)) P) P.length) (2 * m)) = false → corR l (m : Int) = [] ∧ corN l (m : Int) = 0 ∧ corOk l (m : Int) = false) := by
  subst hp
  have hz' : ¬ zeroL (synL l (2 * m)) = true := by
    intro h'; rw [isWR, hf] at hz; simp [h'] at hz
  have hne : ¬ ((plcs l.length (locL (synL l (2 * m)))).length = 0 ∨ (plcs l.length (locL (synL l (2 * m)))).length ≠ locN (synL l (2 * m)) ((synL l (2 * m)).length / 2)) := by
    rintro (h1 | h1)
    · exact h0 h1
    · exact h1 h
  constructor
  · intro hy
    have e : corO l (m : Int) = some (putE l (plcs l.length (locL (synL l (2 * m)))) (corE (synL l (2 * m)) (plcs l.length (locL (synL l (2 * m))))) (plcs l.length (locL (synL l (2 * m)))).length, (plcs l.length (locL (synL l (2 * m)))).length) := by
      unfold corO; rw [if_pos hf, Int.toNat_natCast]; unfold corAt
      rw [if_neg hz', if_neg hne, if_pos hy]
    unfold corR corN corOk
    rw [e]; exact ⟨rfl, rfl, rfl⟩
  · intro hy
    have e : corO l (m : Int) = none := by
      unfold corO; rw [if_pos hf, Int.toNat_natCast]; unfold corAt
      rw [if_neg hz', if_neg hne, if_neg (by rw [hy]; simp)]
    unfold corR corN corOk
    rw [e]; exact ⟨rfl, rfl, rfl⟩
theorem cor_right {l : List UInt8} {t : Int} (hz : isWR l t = true) : corR l t = l ∧ corN l t = 0 ∧ corOk l t = true := by
  have hf := isWR_fit hz
  have hz' : zeroL (synL l (2 * t.toNat)) = true := by rw [isWR, hf] at hz; simpa using hz
  have e : corO l t = some (l, 0) := by unfold corO; rw [if_pos hf]; unfold corAt; rw [if_pos hz']
  unfold corR corN corOk
  rw [e]; exact ⟨rfl, rfl, rfl⟩
theorem cor_unfit {l : List UInt8} {t : Int} (hf : fitW l t = false) : corR l t = [] ∧ corN l t = 0 ∧ corOk l t = false := by
  have e : corO l t = none := by unfold corO; rw [if_neg (by rw [hf]; simp)]
  unfold corR corN corOk
  rw [e]; exact ⟨rfl, rfl, rfl⟩
theorem Below.refl' (w w' : World) {n : Nat} (h : n ≤ w.heap.size) : Below n w w := ⟨rfl, rfl, rfl, Nat.le_refl _, fun _ _ => rfl⟩
theorem turn_of5 {w w4 w5 wr : World} (k4 : TurnIn 0 0 w w4) (k5 : TurnIn 0 0 w w5) (hb : Below w4.heap.size w5 wr) : Below w.heap.size w wr := by
  have h4 := k4.size
  have b5 := k5.to_below
  exact ⟨hb.os.trans b5.os, hb.tape.trans b5.tape, hb.output.trans b5.output, Nat.le_trans b5.size hb.size, fun k hk => (hb.block k (by omega)).trans (b5.block k hk)⟩
theorem fitW_len {l l' : List UInt8} {t : Int} (h : l'.length = l.length) : fitW l' t = fitW l t := by unfold fitW; rw [h]
end G294
namespace Go.Proofs.YtblfobbeojdihaaGreatDoor
open Go.RowKit G294

set_option maxRecDepth 100000 in
set_option maxHeartbeats 1000000 in
theorem correctWord_own (v : Value) (l : List UInt8) (t : Int) (a0 : Addr) (w : World) (hv : Seen w v (bys l)) (htab : Tab w) (h0 : 3 < w.heap.size) (s0 : w.cell? ⟨1, 0, none⟩ = some (.iface 160 (.pointer (some a0)))) (l0 : 1 < w.heap.size)
    (hg : w.cell? ⟨2, 0, none⟩ = some (.iface 128 (.agg #[.pointer (some ⟨4, 50, none⟩)]))) (hgl : 2 < w.heap.size) :
    Calls Tryz.prog 12 #[v, .int .i64 t] w (RetCor 5 w (corR l t) (corN l t) (corOk l t)) := by
  have HFA := Lib.hid (faultOf_own v l t a0 w hv htab h0 s0 l0)
  have HT : Hid (∀ W, TurnIn 0 0 w W → Tab W ∧ 3 < W.heap.size ∧ W.cell? ⟨1, 0, none⟩ = some (.iface 160 (.pointer (some a0))) ∧ 1 < W.heap.size ∧ W.cell? ⟨2, 0, none⟩ = some (.iface 128 (.agg #[.pointer (some ⟨4, 50, none⟩)])) ∧ 2 < W.heap.size) := fun W h => by
    have := h.size
    exact ⟨htab.below h.to_below h0, by omega, cell_turn h s0 l0, by omega, cell_turn h hg hgl, by omega⟩
  have HV := Lib.hid hv
  obtain ⟨A, c, rfl, hlc, hcm, _⟩ := hv
  rw [bys_length] at HFA HV hlc ⊢
  unfold maxLen at hcm
  clear htab s0 hg
  by_cases hf : fitW l t = true
  · obtain ⟨m, rfl, hm1, hm4, hm2, hl24, _⟩ := fitW_m hf
    have HF := Lib.hid hf
    have HC := Lib.hid (cloneB_own _ l w HV.out (by omega) (by omega))
    by_cases hz : isWR l (m : Int) = true
    · obtain ⟨e1, e2, e3⟩ := cor_right hz
      have HE1 := Lib.hid e1
      have HE2 := Lib.hid e2
      have HE3 := Lib.hid e3
      have HZ := Lib.hid hz
      have HC2 : Hid (∀ W, TurnIn 0 0 w W → Calls Tryz.prog 34 #[.slice A l.length c] W (RetBytes 5 W l)) := fun W h => cloneB_own _ l W (HV.out.touch h) (by omega) (by omega)
      clear hz e1 e2 e3 hf
      generalize l.length = q at *
      go_enter Tryz.func12, Tryz.ntmps12
      go_wp2_with fail
      refine HFA.out.mono ?_
      rintro e w1 ⟨k1, ⟨hff, _⟩ | ⟨_, _, rfl⟩ | ⟨_, hzz, _⟩⟩
      · rw [HF.out] at hff; cases hff
      · have z1 := k1.size
        go_wp2_with fail
        refine (HC2.out _ k1).mono ?_
        rintro e w2 ⟨v2, rfl, o2, k2⟩
        have kk := turn_trans k1 k2 (by omega)
        go_wp2_with fail
        go_ret3
        exact ⟨v2, by rw [HE2.out, HE3.out]; rfl, by rw [HE1.out]; exact o2.wider z1 (Nat.le_refl _) (Nat.le_refl _), kk⟩
      · rw [HZ.out] at hzz; cases hzz
    · have HZ : Hid (isWR l (m : Int) = false) := by show _ = _; simpa using hz
      have HSH := Lib.hid (cor_short HZ.out hf)
      have HLO : Hid (∀ P, P = plcs l.length (locL (synL l (2 * m))) → P.length ≠ 0 → P.length = locN (synL l (2 * m)) ((synL l (2 * m)).length / 2) → _) := fun P h1 h2 h3 => cor_long HZ.out hf h1 h2 h3
      have HC2 : Hid (∀ W, TurnIn 0 0 w W → Calls Tryz.prog 34 #[.slice A l.length c] W (RetBytes 5 W l)) := fun W h => cloneB_own _ l W (HV.out.touch h) (by omega) (by omega)
      have HFL : Hid (∀ l' : List UInt8, l'.length = l.length → fitW l' (m : Int) = true) := fun l' h => (fitW_len h).trans hf
      clear hz hf HC
      obtain ⟨s, hs⟩ : ∃ s, s = synL l (2 * m) := ⟨_, rfl⟩
      have HSL : Hid (s.length = 2 * m) := by show _ = _; rw [hs]; simp
      have HLK : Hid (locOk s = true) := by show _ = _; unfold locOk; rw [HSL.out]; simp; omega
      have HTN : Hid (synL l (2 * ((m : Int)).toNat) = s) := by show _ = _; rw [hs]; simp
      rw [← hs] at HSH HLO
      clear hs
      obtain ⟨q, hq⟩ : ∃ q, q = l.length := ⟨_, rfl⟩
      have HQ : Hid (l.length = q) := hq.symm
      rw [← hq] at HSH HLO HC2 HFA hm2 hl24 hlc ⊢
      clear hq
      go_enter Tryz.func12, Tryz.ntmps12
      go_wp2_with fail
      refine HFA.out.mono ?_
      rintro e w1 ⟨k1, ⟨hff, _⟩ | ⟨_, hzz, _⟩ | ⟨_, _, B, sv, rfl, hB1, hB2, hcB, hoB⟩⟩
      · rw [HF.out] at hff; cases hff
      · rw [HZ.out] at hzz; cases hzz
      rw [HTN.out] at hoB
      have z1 := k1.size
      have ka := turn_alloc w1 (.cells #[.pointer none] 56)
      have za := World.size_alloc w1 (.cells #[.pointer none] 56)
      have cb := alloc_cell w1 (.pointer none) 56
      have fb : (w1.alloc (.cells #[.pointer none] 56)).frozen? ⟨w1.heap.size, 0, none⟩ = false := by simp
      have kkA := turn_trans k1 ka (by omega)
      have HAS := Lib.hid (as_hit ⟨B, 0, none⟩ w1.heap.size (.pointer none) _ (HT.out _ kkA).2.2.2.2.1 (HT.out _ kkA).2.2.2.2.2 cb fb (by rw [za]; omega))
      have hcA := cell_turn ka hcB (by omega)
      have hoA := hoB.keep ka (by omega)
      go_wp2_with fail
      refine HAS.out.mono ?_
      rintro e w2 ⟨rfl, cb2, k2⟩
      have z2 := k2.size
      have kk2 : TurnIn 0 0 w w2 := turn_trans kkA k2 (by omega)
      have hcB2 := (World.cell?_of_block (k2.block B (by omega) (by omega))).trans hcA
      have hoB2 := hoA.keep k2 (by omega)
      have zB2 : B < w2.heap.size := by omega
      have HSV := Lib.hid hoB2.seen
      have hcb : w1.heap.size < w2.heap.size := by omega
      have HPB := Lib.hid (positionsBelow_own B q sv s w2 hcB2 HSV.out HLK.out hl24 (HT.out _ kk2).1 (HT.out _ kk2).2.1)
      clear ka kkA k2 cb fb hcA hoA hoB hcB HAS k1
      go_wp2_with fail
      refine HPB.out.mono ?_
      rintro e w3 ⟨v3, rfl, o3, k3⟩
      have z3 := k3.size
      have kk3 := turn_trans kk2 k3 (by omega)
      have cb3 := cell_turn k3 cb2 hcb
      have hcB3 := cell_turn k3 hcB2 zB2
      have HSV3 := Lib.hid (HSV.out.touch k3)
      obtain ⟨P, hP⟩ : ∃ P, P = posL q s := ⟨_, rfl⟩
      have HPP : Hid ((P = [] ∧ (corR l (m : Int) = [] ∧ corN l (m : Int) = 0 ∧ corOk l (m : Int) = false)) ∨ (P = plcs q (locL s) ∧ P.length ≠ 0 ∧ P.length = locN s (s.length / 2))) := by
        show _ ∨ _
        by_cases h : (plcs q (locL s)).length = locN s (s.length / 2)
        · rw [hP, posL_yes h]
          by_cases h0 : (plcs q (locL s)).length = 0
          · exact .inl ⟨List.eq_nil_of_length_eq_zero h0, HSH.out (.inl h0)⟩
          · exact .inr ⟨rfl, h0, h⟩
        · rw [hP, posL_no h]
          exact .inl ⟨rfl, HSH.out (.inr h)⟩
      rw [← hP] at o3
      have HPI : Hid ((∀ i j, i < j → j < P.length → P.getD i 0 < P.getD j 0) ∧ (∀ j, j < P.length → P.getD j 0 < q) ∧ P.length ≤ 4) := by
        show _ ∧ _ ∧ _
        rcases HPP.out with ⟨rfl, _⟩ | ⟨rfl, _, h3⟩
        · exact ⟨fun i j _ h => absurd h (Nat.not_lt_zero _), fun j h => absurd h (Nat.not_lt_zero _), Nat.zero_le _⟩
        · refine ⟨plcs_lt, fun j hj => plcs_at hj, ?_⟩
          rw [h3]
          have := locN_le s (s.length / 2)
          have := HSL.out
          omega
      have HO3 := Lib.hid (Seen.of_own o3)
      have HO3o := Lib.hid o3
      obtain ⟨A3, c3, hv3⟩ := HO3.out.len
      rw [nint_length] at hv3
      subst hv3
      have hPs : P.length ≤ s.length := by
        rcases HPP.out with ⟨h1, _⟩ | ⟨_, _, h3⟩
        · rw [h1]; exact Nat.zero_le _
        · rw [h3]
          have h4 := locN_le s (s.length / 2)
          omega
      have HCH := Lib.hid (changesAt_own B P.length sv (.slice A3 P.length c3) s P w3 hcB3 (by omega) HSV3.out rfl HO3.out (by rw [HSL.out]; omega) hPs (by rw [HSL.out]; omega) (fun j hj => by have := HPI.out.2.1 j hj; omega) (HT.out _ kk3).1 (HT.out _ kk3).2.1)
      obtain ⟨n, hn⟩ : ∃ n, n = P.length := ⟨_, rfl⟩
      have HN : Hid (P.length = n) := hn.symm
      rw [← hn] at HCH HPI HO3 HO3o ⊢
      clear hn o3 k3 hP HSH HPB hPs
      go_wp2_with fail
      refine HCH.out.mono ?_
      rintro e w4 ⟨v4, rfl, o4, k4⟩
      have z4 := k4.size
      have kk4 := turn_trans kk3 k4 (by omega)
      have HO4 := Lib.hid o4
      have HO34 := Lib.hid (HO3.out.touch k4)
      clear o4 k4 HCH
      rcases HPP.out with ⟨hP0, e1, e2, e3⟩ | ⟨hPP, h0, hd⟩
      · have HE1 := Lib.hid e1
        have HE2 := Lib.hid e2
        have HE3 := Lib.hid e3
        have hco : chgOk P = false := by rw [hP0]; rfl
        rw [hco]
        clear hco hP0 e1 e2 e3 HPP
        go_wp2_with fail
        go_ret3
        exact ⟨.slice none 0 0, by rw [HE2.out, HE3.out]; rfl, by rw [HE1.out]; exact (OwnBytes.nil _ _ _).wider (by have := kk4.size; omega) (Nat.le_refl _) (Nat.le_refl _), kk4⟩
      · have hn0 : 0 < n := by have := HN.out; omega
        have hcc := chg_cor (s := s) (P := P) (n := q) (by rw [HN.out]; exact HPI.out.1) (by rw [HN.out]; exact HPI.out.2.1) hl24 (by omega) (by rw [hd]; have := locN_le s (s.length / 2); omega)
        have HLG := Lib.hid (HLO.out P hPP h0 hd)
        have HO4' : Hid (OwnBytes 5 w4 w3.heap.size w4.heap.size v4 (mkRow n (corE s P))) := by
          have h := HO4.out
          rw [hcc.2, HN.out] at h; exact h
        rw [hcc.1]
        rw [HN.out] at HLG
        have hn4 : n ≤ 4 := HPI.out.2.2
        clear hcc HPP hPP h0 hd HLO HO4
        obtain ⟨g4, cp4, rfl, hg41, hg42, hcp41, hcp42⟩ := HO4'.out.slice (by rw [mkRow_length]; exact hn0)
        simp only [mkRow_length] at hcp41 HO4' ⊢
        unfold maxLen at hcp42
        have hc34 := HO34.out
        obtain ⟨A3', cc3', e3, _, hm3, hx3⟩ := hc34
        rw [nint_length, HN.out] at e3 hx3
        simp only [Value.slice.injEq, true_and] at e3
        obtain ⟨rfl, rfl⟩ := e3
        obtain ⟨b3, off3, rfl, hb3, hcell3⟩ := hx3 hn0
        have HX3 : Hid (∀ k, k < n → w4.cell? ⟨b3, off3 + k, none⟩ = some (.int .i64 ((P.getD k 0 : Nat) : Int))) := fun k hk => hcell3 k _ (nint_get P k (by rw [HN.out]; exact hk))
        unfold maxLen at hm3
        clear hx3 hcell3 cb2 hcB2 cb3 hcB3
        go_wp2_with fail
        refine (HC2.out _ kk4).mono ?_
        rintro e w5 ⟨v5, rfl, o5, k5⟩
        have z5 := k5.size
        have kk5 := turn_trans kk4 k5 (by omega)
        obtain ⟨g5, cp5, rfl, hg51, hg52, hcp51, hcp52⟩ := o5.slice (by rw [HQ.out]; omega)
        have ho5 := o5.1
        rw [HQ.out] at ho5 hcp51 ⊢
        unfold maxLen at hcp52
        have HPL : Hid (∀ k, (putE l P (corE s P) k).length = q) := fun k => by rw [putE_length]; exact HQ.out
        have HX4 : Hid (∀ k, k < n → w5.cell? ⟨g4, k, none⟩ = some (.int .u8 ((corE s P k).toNat : Int))) := fun k hk => by
          have h := (HO4'.out.keep k5 (by omega)).cellAt (k := k) (by rw [mkRow_length]; exact hk)
          rwa [mkRow_getD _ _ _ hk] at h
        have HX35 : Hid (∀ k, k < n → w5.cell? ⟨b3, off3 + k, none⟩ = some (.int .i64 ((P.getD k 0 : Nat) : Int))) := fun k hk => cell_turn k5 (HX3.out k hk) hb3
        have hb35 : b3 < w4.heap.size := hb3
        have hg45 : g4 < w4.heap.size := hg42
        clear o5 k5 HO4' HO34
        go_wp2_with fail
        go_loopw [42] (fun i wr => ∃ k : Nat, k ≤ n ∧ i = .int .i64 k ∧ wr.ownsRow w4.heap.size 5 1 (.slice (some ⟨g5, 0, none⟩) q cp5) q (bys (putE l P (corE s P) k)) ∧ Below w4.heap.size w5 wr ∧ g5 < wr.heap.size)
          (fun i _ => n - (intOf i).toNat)
        case atStart => exact ⟨0, Nat.zero_le _, rfl, ho5, Below.refl' _ w5 z5, hg52⟩
        case round =>
          obtain ⟨k, hk, rfl, ho, hb, hgz⟩ := hrel
          clear ho5
          by_cases hlt : k < n
          · have hki : (k : Int) < (n : Int) := by omega
            have hp := (hb.cell (p := ⟨b3, off3 + k, none⟩) hb35).trans (HX35.out k hlt)
            have he := (hb.cell (p := ⟨g4, k, none⟩) hg45).trans (HX4.out k hlt)
            have hpq := HPI.out.2.1 k hlt
            obtain ⟨p, hpp⟩ : ∃ p, p = P.getD k 0 := ⟨_, rfl⟩
            rw [← hpp] at hp hpq
            have hcx := own_cell8 ho (HPL.out k).symm (k := p) hpq
            have hfr := ho.frozenAt p
            obtain ⟨x, hx⟩ : ∃ x, x = (putE l P (corE s P) k).getD p 0 := ⟨_, rfl⟩
            obtain ⟨y, hy⟩ : ∃ y, y = corE s P k := ⟨_, rfl⟩
            rw [← hx] at hcx
            rw [← hy] at he
            have hst := own_set8 ho p (x ^^^ y)
            have hxor := xor_u8 x y
            have HPU : Hid ((putE l P (corE s P) k).set p (x ^^^ y) = putE l P (corE s P) (k + 1)) := by show _ = _; rw [putE, ← hpp, ← hx, ← hy]
            rw [HPU.out] at hst
            have HST := Lib.hid hst
            have HBS : Hid (Below w4.heap.size w5 (wr.setCell ⟨g5, p, none⟩ (.int .u8 ((x ^^^ y).toNat : Int)))) := hb.setCell hg51 _
            have hpi : (p : Int) < (q : Int) := by omega
            clear hst ho hx hy hpp
            go_wp2_with fail
            refine wp_region_still_tail 10 (by kernel_rfl) (by kernel_rfl) ?_
            simp only [List.take_succ_cons, List.take_zero, List.drop_succ_cons, List.drop_zero]
            repeat still_step
            refine wpStill_nil ?_
            go_wp2_with fail
            go_roundw
            case rel => exact ⟨k + 1, by omega, by go_num, HST.out, below_drewN HBS.out _, by simpa using hgz⟩
            case measure => simp [intOf]; omega
          · obtain rfl : k = n := by omega
            have hki : ¬ (k : Int) < (k : Int) := by omega
            have kr : TurnIn 0 0 w wr := TurnIn.of_below (turn_of5 kk4 kk5 hb)
            have hsn : Seen wr (.slice (some ⟨g5, 0, none⟩) q cp5) (bys (putE l P (corE s P) k)) := Seen.of_own ho
            have HF2 := Lib.hid (faultOf_own _ (putE l P (corE s P) k) (m : Int) a0 wr hsn (HT.out _ kr).1 (HT.out _ kr).2.1 (HT.out _ kr).2.2.1 (HT.out _ kr).2.2.2.1)
            have HFF : Hid (fitW (putE l P (corE s P) k) (m : Int) = true) := HFL.out _ (by rw [HPL.out, HQ.out])
            have HWW : Hid (isWR (putE l P (corE s P) k) (m : Int) = zeroL (synL (putE l P (corE s P) k) (2 * m))) := by show _ = _; rw [isWR, HFF.out]; simp
            have HO := Lib.hid ho
            have hzr := hb.size
            clear ho
            go_wp2_with fail
            refine HF2.out.mono ?_
            rintro e w6 ⟨k6, ⟨hff, _⟩ | ⟨_, hzz, rfl⟩ | ⟨_, hzz, B6, sv6, rfl, _, _, _, _⟩⟩
            · rw [HFF.out] at hff; cases hff
            · obtain ⟨e1, e2, e3⟩ := HLG.out.1 (by rw [← HWW.out]; exact hzz)
              have HE1 := Lib.hid e1
              have HE2 := Lib.hid e2
              have HE3 := Lib.hid e3
              have HO6 := Lib.hid (own_below HO.out k6.to_below)
              clear e1 e2 e3
              go_wp2_with fail
              go_ret3
              exact ⟨_, by rw [HE2.out, HE3.out]; rfl, by rw [HE1.out]; exact ⟨by rw [HPL.out]; exact own_base HO6.out (by have := kk4.size; omega), Nat.le_refl _, fun g e => (HO6.out.lt g e).2⟩, turn_trans kr k6 (by omega)⟩
            · obtain ⟨e1, e2, e3⟩ := HLG.out.2 (by rw [← HWW.out]; exact hzz)
              have HE1 := Lib.hid e1
              have HE2 := Lib.hid e2
              have HE3 := Lib.hid e3
              have kk6 := turn_trans kr k6 (by omega)
              clear e1 e2 e3
              go_wp2_with fail
              go_ret3
              exact ⟨.slice none 0 0, by rw [HE2.out, HE3.out]; rfl, by rw [HE1.out]; exact (OwnBytes.nil _ _ _).wider (by have := kk6.size; omega) (Nat.le_refl _) (Nat.le_refl _), kk6⟩
  · have hf' : fitW l t = false := by simpa using hf
    obtain ⟨e1, e2, e3⟩ := cor_unfit hf'
    have HE1 := Lib.hid e1
    have HE2 := Lib.hid e2
    have HE3 := Lib.hid e3
    have HF := Lib.hid hf'
    clear e1 e2 e3 hf hf'
    generalize l.length = q at *
    go_enter Tryz.func12, Tryz.ntmps12
    go_wp2_with fail
    refine HFA.out.mono ?_
    rintro e w1 ⟨k1, ⟨_, rfl⟩ | ⟨hff, _⟩ | ⟨hff, _⟩⟩
    · have ka := turn_alloc w1 (.cells #[.pointer none] 56)
      have kkA := turn_trans k1 ka (by omega)
      have HAS := Lib.hid (as_miss a0 w1.heap.size _ (HT.out _ kkA).2.2.2.2.1 (HT.out _ kkA).2.2.2.2.2)
      clear ka
      go_wp2_with fail
      refine HAS.out.mono ?_
      rintro e w2 ⟨rfl, k2⟩
      have kk := turn_trans kkA k2 (by omega)
      go_wp2_with fail
      go_ret3
      exact ⟨.slice none 0 0, by rw [HE2.out, HE3.out]; rfl, by rw [HE1.out]; exact (OwnBytes.nil _ _ _).wider (by have := kk.size; omega) (Nat.le_refl _) (Nat.le_refl _), kk⟩
    · rw [HF.out] at hff; cases hff
    · rw [HF.out] at hff; cases hff

end Go.Proofs.YtblfobbeojdihaaGreatDoor

/- Lagrange's interpolation: the model's. -/
namespace G294
theorem upK_at {X : Nat → UInt8} {i : Nat} {x : UInt8} : upK X i x (i + 1) = upK X i x i := by simp [upK]
theorem upK_step {X : Nat → UInt8} {i k : Nat} {x : UInt8} (h : k ≠ i) : upK X i x (k + 1) = gmul (upK X i x k) (x ^^^ X k) := by simp [upK, h]
theorem lagK_succ (X Y : Nat → UInt8) (x : UInt8) (n m : Nat) : lagK X Y x n (m + 1) = lagK X Y x n m ^^^ gmul (Y m) (gmul (upK X m x n) (ginv (upK X m (X m) n))) := rfl
end G294
namespace Go.Proofs.YtblfobbeojdihaaGreatDoor
open Go.RowKit G294

theorem l1Inverse_u8 (a : UInt8) (w : World) :
    Calls Tryz.prog 47 #[.int .u8 (a.toNat : Int)] w fun e w' => e = .returned (.int .u8 ((ginv a).toNat : Int)) ∧ w = w' := by
  rw [ginv_toNat]; exact l1Inverse_any _ a.toNat_lt w

end Go.Proofs.YtblfobbeojdihaaGreatDoor
