/- Joined texts: ErrW1, ErrW2, ErrW3, ErrW4, SpecBlank, SpecFill, Allocs. -/
import Derived.Test.YtblfobbeojdihaaGreatDoorBd01
import Derived.Test.YtblfobbeojdihaaGreatDoorBd04
import Derived.Test.YtblfobbeojdihaaGreatDoorBd02
import Derived.Lib.AppendZeros
import Derived.Deep.AppendSrc
import Derived.WalkSpells
import Derived.BigRegion
import Derived.Test.YtblfobbeojdihaaGreatDoorBd03
import Derived.StillTailTactics
import Derived.Deep.OwnRows
import Derived.Deep.RegionLaw
set_option linter.unusedSimpArgs false
set_option linter.unusedVariables false
/- Chapter 8: sizes, roots, slices.Clone of bytes, the generator: the program's. -/
namespace G294
open Go Go.RowKit
theorem errT_b {t : Int} (h : errT t = true) : ∃ m : Nat, t = m ∧ 1 ≤ m ∧ m ≤ 4 := by
  simp only [errT, decide_eq_true_eq] at h
  exact ⟨t.toNat, by omega, by omega, by omega⟩
def sizB (m n : Nat) : Bool := decide (2 * m < n ∧ n ≤ 24)
/-- append([]T{}, x...) of a row that is not empty: a new row -/
theorem run_appLit {P : Program} (w : World) (t ty e : TypeId) (z : Value) (bytes : Nat) (ht : P.underlying t = some (.slice e)) (hinfo : (P.info? e).map (fun i => (i.zero, i.size, i.bytes)) = some (some z, 1, bytes)) (hzs : z.cells.size = 1)
    (base : Addr) (A : Addr) (m c : Nat) (ys : List Value) (h1m : 1 ≤ m) (hl : ys.length = m) (hc : ∀ j y, ys[j]? = some y → w.cell? (A.add j) = some y) (h1 : ∀ y, y ∈ ys → y.oneCell' = true) (hn : m ≤ 2000000) (hby : bytes ≤ 1000) :
    ∃ cp w', (Builtin.append_ #[t, t] ty #[.slice (some base) 0 0, .slice (some A) m c]).run P w = .ok (.slice (some ⟨w.heap.size, 0, none⟩) m cp) w' ∧ w'.ownsRow w.heap.size e 1 (.slice (some ⟨w.heap.size, 0, none⟩) m cp) m ys ∧ TurnIn 0 0 w w' := by
  obtain ⟨i, hi, hz, hsz, hbs⟩ := info_parts hinfo
  have hge := grownCap_ge w m 0 e
  have hcm : grownCap w m 0 e ≤ maxLen := grownCap_le_maxLen w m 0 e (by unfold maxLen; omega)
  have hb : m * bytes ≤ 2000000 * 1000 := Nat.mul_le_mul hn hby
  have h := run_append_grow_src (P := P) w t t ty e i z ht hi hz (some base) 0 0 [] (by simp [Builtin.firstCells, loadCells, loadCellsFrom]) (.slice (some A) m c) m ys (by rw [hsz]; exact Src.ofSlice w ht A m c ys (by omega) hc h1) (by omega) (by omega) (by rw [Nat.zero_add, nextslicecap_zero (by omega), hbs]; omega)
  rw [Nat.zero_add] at h
  refine ⟨_, _, h, ⟨by omega, .inr ⟨w.heap.size, _, _, rfl, Nat.le_refl _, heap_alloc_new w.drew _, hge, hcm, ?_, ?_⟩⟩, TurnIn.of_below ((Below.refl _ _).drew.alloc (Nat.le_refl _) _)⟩
  · simp only [List.nil_append, Array.size_append, List.size_toArray, size_zeroCells, hzs, hl]; omega
  · simp only [List.nil_append, Array.toList_append, Nat.mul_one]
    rw [← hl]; exact List.take_left
theorem seen_cellsB {w : World} {v : Value} {l : List UInt8} (h : Seen w v (bys l)) (h1 : 1 ≤ l.length) : ∃ b off c, v = .slice (some ⟨b, off, none⟩) l.length c ∧ b < w.heap.size ∧ l.length ≤ 9223372036854775807 ∧ ∀ W, Below w.heap.size w W → ∀ j y, (bys l)[j]? = some y → W.cell? ((⟨b, off, none⟩ : Addr).add j) = some y := by
  obtain ⟨A, c, rfl, hlc, hcm, hx⟩ := h
  rw [bys_length] at hlc hx
  obtain ⟨b, off, rfl, hbl, hcell⟩ := hx (by omega)
  unfold maxLen at hcm
  refine ⟨b, off, c, by rw [bys_length], hbl, by omega, fun W hb j y hj => ?_⟩
  rw [Addr.add_lit]
  exact (hb.cell (p := ⟨b, off + j, none⟩) hbl).trans (hcell j y hj)
theorem own_lowerB {w : World} {e : TypeId} {v : Value} {lo lo' n : Nat} {l : List UInt8} (h : w.ownsRow lo e 1 v n (bys l)) (hl : lo' ≤ lo) (hn : n = l.length) : w.ownsRow lo' e 1 v l.length (bys l) := by
  subst hn
  refine ⟨h.1, ?_⟩
  rcases h.2 with hh | ⟨g, cap, cur, rfl, hbg, rest⟩
  · exact .inl hh
  · exact .inr ⟨g, cap, cur, rfl, Nat.le_trans hl hbg, rest⟩
end G294
namespace Go.Proofs.YtblfobbeojdihaaGreatDoor
open Go.RowKit G294

set_option maxHeartbeats 400000 in
theorem goodWrong_any (t : Int) (w : World) : Calls Tryz.prog 35 #[.int .i64 t] w fun e w' => e = .returned (.bool (errT t)) ∧ w = w' := by
  by_cases h1 : 1 ≤ t
  · have hd : decide (1 ≤ t) = true := by simpa using h1
    by_cases h2 : t ≤ 4
    · have HV : Hid (errT t = true) := by show errT t = true; simp [errT, h1, h2]
      go_enter Tryz.func35, Tryz.ntmps35
      go_wp2_with fail
      go_ret
      exact ⟨by rw [HV.out]; simp [h2], rfl⟩
    · have HV : Hid (errT t = false) := by show errT t = false; simp [errT, h2]
      go_enter Tryz.func35, Tryz.ntmps35
      go_wp2_with fail
      go_ret
      exact ⟨by rw [HV.out]; simp [h2], rfl⟩
  · have hd : decide (1 ≤ t) = false := by simpa using h1
    have HV : Hid (errT t = false) := by show errT t = false; simp [errT, h1]
    go_enter Tryz.func35, Tryz.ntmps35
    go_wp2_with fail
    go_ret
    exact ⟨by rw [HV.out]; rfl, rfl⟩

set_option maxHeartbeats 400000 in
theorem checkCount_any (m : Nat) (w : World) (hm : m ≤ 100) : Calls Tryz.prog 26 #[.int .i64 (m : Int)] w fun e w' => e = .returned (.int .i64 ((2 * m : Nat) : Int)) ∧ w = w' := by
  obtain ⟨z, hz⟩ : ∃ z : Int, z = 2 * (m : Int) := ⟨_, rfl⟩
  have hzz : 2 * (m : Int) = z := hz.symm
  have hb1 : 0 ≤ z := by omega
  have hb2 : z ≤ 200 := by omega
  have HZ : Hid (z = ((2 * m : Nat) : Int)) := by show _ = _; omega
  clear hz
  go_enter Tryz.func26, Tryz.ntmps26
  go_wp2_with fail
  go_ret
  exact ⟨by rw [HZ.out]; rfl, rfl⟩

set_option maxHeartbeats 400000 in
theorem goodWordSize_any (n m : Nat) (w : World) (hn : n ≤ 9223372036854775807) (hm : m ≤ 100) : Calls Tryz.prog 25 #[.int .i64 (n : Int), .int .i64 (m : Int)] w fun e w' => e = .returned (.bool (sizB m n)) ∧ w = w' := by
  by_cases h1 : 2 * m < n
  · have hd : decide (((2 * m : Nat) : Int) < (n : Int)) = true := by simp; omega
    have hdi : ((2 * m : Nat) : Int) < (n : Int) := by omega
    by_cases h2 : n ≤ 24
    · have HV : Hid (sizB m n = true) := by show _ = _; simp [sizB, h1, h2]
      have h2i : (n : Int) ≤ 24 := by omega
      go_enter Tryz.func25, Tryz.ntmps25
      go_wp2_with fail
      refine (checkCount_any m _ hm).mono ?_
      rintro e w' ⟨rfl, rfl⟩
      generalize 2 * m = z at *
      go_wp2_with fail
      go_ret
      exact ⟨by rw [HV.out]; simp [h2i], rfl⟩
    · have HV : Hid (sizB m n = false) := by show _ = _; simp [sizB, h2]
      have h2i : ¬ (n : Int) ≤ 24 := by omega
      go_enter Tryz.func25, Tryz.ntmps25
      go_wp2_with fail
      refine (checkCount_any m _ hm).mono ?_
      rintro e w' ⟨rfl, rfl⟩
      generalize 2 * m = z at *
      go_wp2_with fail
      go_ret
      exact ⟨by rw [HV.out]; simp [h2i], rfl⟩
  · have hd : decide (((2 * m : Nat) : Int) < (n : Int)) = false := by simp; omega
    have hdi : ¬ ((2 * m : Nat) : Int) < (n : Int) := by omega
    have HV : Hid (sizB m n = false) := by show _ = _; simp [sizB, h1]
    go_enter Tryz.func25, Tryz.ntmps25
    go_wp2_with fail
    refine (checkCount_any m _ hm).mono ?_
    rintro e w' ⟨rfl, rfl⟩
    generalize 2 * m = z at *
    go_wp2_with fail
    go_ret
    exact ⟨by rw [HV.out]; rfl, rfl⟩

theorem powOf3 (n : Nat) (w : World) (hn : n ≤ 1000) (ht : Tab w) : Calls Tryz.prog 68 #[.int .u8 3, .int .i64 (n : Int)] w fun e w' => e = .returned (.int .u8 ((powB 3 n).toNat : Int)) ∧ w = w' := by
  have h := powerOf_any 3 n (by omega) (by omega) w ht
  rw [powB_toNat]; exact h

theorem l1Pow3 (n : Nat) (w : World) (hn : n ≤ 1000) : Calls Tryz.prog 48 #[.int .u8 3, .int .i64 (n : Int)] w fun e w' => e = .returned (.int .u8 ((powB 3 n).toNat : Int)) ∧ w = w' := by
  have h := l1Power_any 3 n (by omega) (by omega) w
  rw [powB_toNat]; exact h

set_option maxRecDepth 100000 in
set_option maxHeartbeats 2000000 in
theorem cloneB_own (v : Value) (l : List UInt8) (w : World) (hv : Seen w v (bys l)) (h1 : 1 ≤ l.length) (h2 : l.length ≤ 1048576) : Calls Tryz.prog 34 #[v] w (RetBytes 5 w l) := by
  obtain ⟨b, off, c, rfl, hbl, hlm, hcell⟩ := seen_cellsB hv h1
  have hbA : Below w.heap.size w (w.alloc (.cells #[] 5)) := (Below.refl _ _).alloc (Nat.le_refl _) _
  obtain ⟨cp, w1, hap, ho, k1⟩ := run_appLit (P := Tryz.prog) (w.alloc (.cells #[] 5)) 22 22 5 _ _ Tryz.underlying22 infoByte rfl ⟨w.heap.size, 0, none⟩ ⟨b, off, none⟩ l.length c (bys l) h1 (bys_length _) (hcell _ hbA) (fun y hy => bys_one y l hy) (by omega) (by omega)
  rw [World.size_alloc] at hap ho
  have HO : Hid (OwnBytes 5 w1 w.heap.size w1.heap.size (.slice (some ⟨w.heap.size + 1, 0, none⟩) l.length cp) l) := Lib.hid ⟨own_lowerB ho (Nat.le_succ _) rfl, Nat.le_refl _, fun g e => (ho.lt g e).2⟩
  have HK := Lib.hid (turn_trans (TurnIn.of_below hbA) k1 (by omega))
  have hq : ∀ W : World, (binOp .eql 22 (.slice (some ⟨b, off, none⟩) l.length c) (.slice none 0 0)).run Tryz.prog W = .ok (.bool false) W := fun W => by
    have h := Lib.run_eql_slice_nil (P := Tryz.prog) W 22 5 (some ⟨b, off, none⟩) l.length c 0 0 Tryz.underlying22
    simpa using h
  clear hcell ho k1 hv
  generalize l.length = n at *
  go_enter Tryz.func34, Tryz.ntmps34
  go_wp2_with (at_builtin; refine Lib.wpList_append_run _ rfl _ _ _ _ rfl _ _ rfl rfl _ _ hap ?_)
  go_wp2_with fail
  go_ret
  exact ⟨_, rfl, HO.out, HK.out⟩

set_option maxRecDepth 100000 in
set_option maxHeartbeats 2000000 in
theorem rootsOf_own (m : Nat) (w : World) (h1 : 1 ≤ m) (h4 : m ≤ 4) (ht : Tab w) (h0 : 3 < w.heap.size) :
    Calls Tryz.prog 36 #[.int .i64 (m : Int)] w (RetBytes 5 w (rootsL (2 * m))) := by
  obtain ⟨i0, hi0, hz0, hz1, hz2⟩ := info_parts infoByte
  have HT := Lib.hid ht
  clear ht
  obtain ⟨n, hn⟩ : ∃ n, n = 2 * m := ⟨_, rfl⟩
  have hn8 : n ≤ 8 := by omega
  have hn1 : 1 ≤ n := by omega
  have HC : Hid (∀ W : World, Calls Tryz.prog 26 #[.int .i64 (m : Int)] W fun e w' => e = .returned (.int .i64 (n : Int)) ∧ W = w') := fun W => by rw [hn]; exact checkCount_any m W (by omega)
  have HBL : Hid ((bys (rootsL n)).length = n) := by show _ = _; simp [rootsL]
  have HG : Hid (∀ k, k < n → (bys (rootsL n))[k]? = some (.int .u8 ((powB 3 (k + 1)).toNat : Int))) := fun k hk => by
    rw [bys_get _ k (by simpa [rootsL] using hk)]; simp [rootsL, mkRow]
  rw [← hn]
  have HL : Hid ((rootsL n).length = n) := by show _ = _; simp [rootsL]
  clear hn
  go_enter Tryz.func36, Tryz.ntmps36
  go_wp2_with fail
  refine (HC.out _).mono ?_
  rintro e w' ⟨rfl, rfl⟩
  go_wp2_with (at_make; refine wpList_make_full _ rfl _ _ _ rfl w.heap.size _ i0 _ 1 Tryz.underlying22 hi0 hz0 hz1 _ _ _ _ n rfl rfl rfl rfl ?b2 ?b3 ?b4 ?_)
  case b2 => rw [hz2]; omega
  case b3 => unfold maxLen; omega
  case b4 => exact Nat.le_refl _
  intro w1 hown1 hg1
  have hb1 : Below w.heap.size w w1 := below_of_grown hg1 (Nat.le_refl _) (by simp)
  rw [toList_madeCells_one] at hown1
  clear hg1
  go_wp2_with fail
  go_loopw [10] (fun i wr => ∃ k : Nat, k ≤ n ∧ i = .int .i64 k ∧ wr.ownsRow w.heap.size 5 1 (.slice (some ⟨w.heap.size, 0, none⟩) n n) n ((bys (rootsL n)).take k ++ List.replicate (n - k) (.int .u8 0)) ∧ Below w.heap.size w wr)
    (fun i _ => n - (intOf i).toNat)
  case atStart => exact ⟨0, Nat.zero_le _, rfl, by simpa using hown1, hb1⟩
  case round =>
    obtain ⟨k, hk, rfl, hown, hb⟩ := hrel
    clear hown1 hb1
    by_cases hlt : k < n
    · have hki : (k : Int) < (n : Int) := by omega
      have hco : wr.cell? ⟨w.heap.size, k, none⟩ = some (.int .u8 0) := by
        have htk : ((bys (rootsL n)).take k).length = k := by rw [List.length_take, HBL.out]; omega
        rw [hown.cellAt k (by omega), List.getElem?_append_right (by omega), htk, Nat.sub_self, List.getElem?_replicate, if_pos (by omega)]
      have hfr := hown.frozenAt k
      have hst := hown.stored k (.int .u8 ((powB 3 (k + 1)).toNat : Int))
      rw [take_set_next _ _ k _ (HG.out k hlt) (by rw [HBL.out]; simp; omega)] at hst
      have HST := Lib.hid hst.1
      have HBB : Hid (Below w.heap.size w (wr.setCell ⟨w.heap.size, k, none⟩ (.int .u8 ((powB 3 (k + 1)).toNat : Int)))) := hb.setCell (Nat.le_refl _) _
      have HP : Hid (Calls Tryz.prog 68 #[.int .u8 3, .int .i64 ((k : Int) + 1)] wr fun e w' => e = .returned (.int .u8 ((powB 3 (k + 1)).toNat : Int)) ∧ wr = w') :=
        powOf3 (k + 1) wr (by omega) (HT.out.below hb h0)
      clear hst
      go_wp2_with fail
      refine HP.out.mono ?_
      rintro e w' ⟨rfl, rfl⟩
      go_wp2_with fail
      go_roundw
      case rel => exact ⟨k + 1, by omega, by go_num, by simpa [Nat.sub_sub] using HST.out, HBB.out⟩
      case measure => simp [intOf]; omega
    · obtain rfl : k = n := by omega
      have hki : ¬ (k : Int) < (k : Int) := by omega
      go_wp2_with fail
      go_ret
      rw [List.take_of_length_le (by rw [HBL.out]; exact Nat.le_refl _), Nat.sub_self] at hown
      exact ⟨_, rfl, OwnBytes.of_made (by rw [HL.out]; simpa using hown), TurnIn.of_below hb⟩

end Go.Proofs.YtblfobbeojdihaaGreatDoor

/- Chapter 8: the generator: the program's and the model's. -/
namespace G294
open Go Go.RowKit
theorem OwnBytes.setB {E : TypeId} {w : World} {lo hi g n c : Nat} {l : List UInt8} (h : OwnBytes E w lo hi (.slice (some ⟨g, 0, none⟩) n c) l) (hn : n = l.length) (k : Nat) (x : UInt8) :
    OwnBytes E (w.setCell ⟨g, k, none⟩ (.int .u8 (x.toNat : Int))) lo hi (.slice (some ⟨g, 0, none⟩) n c) (l.set k x) ∧ TurnIn lo hi w (w.setCell ⟨g, k, none⟩ (.int .u8 (x.toNat : Int))) := by
  obtain ⟨h1, h2, h3⟩ := h
  subst hn
  have hs := h1.stored k (.int .u8 (x.toNat : Int))
  refine ⟨⟨by rw [bys_set, List.length_set]; exact hs.1, by simpa using h2, h3⟩, TurnIn.of_grown hs.2 fun g' e => ?_⟩
  obtain rfl : g = g' := Option.some.inj e
  exact ⟨(h1.lt g rfl).1, h3 g rfl⟩
theorem ArrAt.seenTake {W : World} {B T : Nat} {l : List UInt8} (h : ArrAt W B T l) {k : Nat} (hk : k ≤ l.length) (hm : l.length ≤ 1000) : Seen W (.slice (some ⟨B, 0, none⟩) k l.length) (bys (l.take k)) :=
  ⟨_, l.length, by simp [Nat.min_eq_left hk], by simp; omega, by unfold maxLen; omega, fun _ => ⟨B, 0, rfl, h.lt, fun i u hu => by
    have hi : i < k := by have := (List.getElem?_eq_some_iff.1 hu).1; simp at this; omega
    rw [cell_of_row W B _ _ T _ h, List.getElem?_toArray, Nat.zero_add, ← hu]
    simp [bys, List.getElem?_take, hi]⟩⟩
end G294
namespace Go.Proofs.YtblfobbeojdihaaGreatDoor
open Go.RowKit G294

theorem sliceCoef (B k : Nat) (hk : k + 1 ≤ 20) (W : World) : (Instr.sliceAt 54 (.pointer (some ⟨B, 0, none⟩)) none (some (.int .i64 ((k : Int) + 1))) none).run Tryz.prog W = .ok (.slice (some ⟨B, 0, none⟩) (k + 1) 20) W := by
  have hal : Tryz.prog.arrayLen 54 = 20 := by kernel_rfl
  have hel : (sizeOf (Tryz.prog.elem 54)).run Tryz.prog W = .ok 1 W := by kernel_rfl
  rw [run_sliceAt_array_h W 54 ⟨B, 0, none⟩ (by kernel_rfl) .i64 ((k : Int) + 1) (by omega) (by rw [hal]; omega), hel, hal]
  simp only [Result.andThen, slicedAt]
  rw [show ((k : Int) + 1).toNat = k + 1 by omega]
  simp [Addr.add]

set_option maxRecDepth 100000 in
set_option maxHeartbeats 4000000 in
theorem generatorOf_own (t : Int) (w : World) (ht : Tab w) (h0 : 3 < w.heap.size) :
    Calls Tryz.prog 11 #[.int .i64 t] w (RetBytesOk 5 w (genR t) (errT t)) := by
  by_cases he : errT t = true
  · obtain ⟨m, rfl, h1, h4⟩ := errT_b he
    have HR : Hid (genR (m : Int) = genL (2 * m)) := by show _ = _; unfold genR; rw [if_pos he]; simp
    have HE := Lib.hid he
    have HT := Lib.hid ht
    have HW : Hid (∀ k, k ≤ 18 → wrC (powB 3 (k + 1)) (pad20 (genL k)) = pad20 (genL (k + 1))) := fun k hk => by rw [wr_pad _ _ (by simp; omega)]; rfl
    have HPL : Hid (∀ k, k ≤ 19 → (pad20 (genL k)).length = 20) := fun k hk => pad20_length (by simp; omega)
    have HTK : Hid (∀ k, (pad20 (genL k)).take (k + 1) = genL k) := fun k => by have := pad_take (genL k); rwa [genL_length] at this
    clear he ht
    go_enter Tryz.func11, Tryz.ntmps11
    go_wp2_with fail
    refine (goodWrong_any _ _).mono ?_
    rintro e w' ⟨rfl, rfl⟩
    rw [HE.out]
    go_wp2_with (refine wpList_alloc_arr rfl 54 rfl _ zeroCoef ?_)
    intro W1 hW1
    replace hW1 := hW1.out
    have t1 := hW1 ▸ turn_alloc w (.cells (bys (List.replicate 20 0)).toArray 54)
    have r1 := hW1 ▸ ArrAt.new w 54 (List.replicate 20 0)
    have z1 := hW1 ▸ World.size_alloc w (.cells (bys (List.replicate 20 0)).toArray 54)
    clear hW1
    generalize hB : w.heap.size = B at *
    have HBE := Lib.hid hB
    clear hB
    go_wp2_with (refine wpList_store_arr rfl 54 _ _ rfl B 20 _ _ (pad20 (genL 0)) rfl rfl r1 sizeCoef (by simp) (by simp [pad20]) ?_)
    intro W2 hW2
    replace hW2 := hW2.out
    have r2 := hW2 ▸ r1.row (pad20 (genL 0))
    have t2 := hW2 ▸ turn_row W1 B (bys (pad20 (genL 0))).toArray
    have z2 : W2.heap.size = B + 1 := by rw [hW2]; simp [z1]
    have k2 : TurnIn 0 0 w W2 := turn_trans t1 t2 (by have := HBE.out; omega)
    clear hW2 r1 t1 t2 z1
    have htab2 : Tab W2 := HT.out.below k2.to_below (by rw [HBE.out]; exact h0)
    have HTB2 := Lib.hid htab2
    clear htab2
    go_wp2_with fail
    refine (rootsOf_own m W2 h1 h4 HTB2.out (by omega)).mono ?_
    rintro e W3 ⟨v3, rfl, o3, k3⟩
    obtain ⟨n, hn⟩ : ∃ n, n = 2 * m := ⟨_, rfl⟩
    have hn1 : 1 ≤ n := by omega
    have hn8 : n ≤ 8 := by omega
    rw [← hn] at o3
    have HNM : Hid ((n : Int) = 2 * (m : Int)) := by show _ = _; omega
    have HCC : Hid (∀ W : World, Calls Tryz.prog 26 #[.int .i64 (m : Int)] W fun e w' => e = .returned (.int .i64 (n : Int)) ∧ W = w') := fun W => by rw [hn]; exact checkCount_any m W (by omega)
    rw [← hn] at HR
    clear hn
    have HRL : Hid ((rootsL n).length = n) := by show _ = _; simp [rootsL]
    have HRG : Hid (∀ k, k < n → (rootsL n).getD k 0 = powB 3 (k + 1)) := fun k hk => by simp [rootsL, mkRow, List.getD, hk]
    obtain ⟨g, cp, rfl, hg1, hg2, hcp1, hcp2⟩ := o3.slice (by rw [HRL.out]; omega)
    rw [HRL.out] at o3 hcp1 ⊢
    unfold maxLen at hcp2
    have r3 := r2.keep k3 (by omega)
    have kw := turn_trans k2 k3 (by omega)
    have z3 := k3.size
    clear r2 k2 k3
    go_wp2_with fail
    go_loopw [14] (fun i wr => ∃ k : Nat, k ≤ n ∧ i = .int .i64 k ∧ ArrAt wr B 54 (pad20 (genL k)) ∧ OwnBytes 5 wr W2.heap.size W3.heap.size (.slice (some ⟨g, 0, none⟩) n cp) (rootsL n) ∧ TurnIn 0 0 w wr ∧ W3.heap.size ≤ wr.heap.size)
      (fun i _ => n - (intOf i).toNat)
    case atStart => exact ⟨0, by omega, rfl, r3, o3, kw, Nat.le_refl _⟩
    case round =>
      obtain ⟨k, hk, rfl, q3, qo, qw, z4⟩ := hrel
      clear r3 o3 kw
      by_cases hlt : k < n
      · have hki : (k : Int) < (n : Int) := by omega
        have hcx := qo.cellAt (k := k) (by rw [HRL.out]; exact hlt)
        rw [HRG.out k hlt] at hcx
        have htab : Tab wr := HT.out.below qw.to_below (by rw [HBE.out]; exact h0)
        have HTB := Lib.hid htab
        clear htab
        go_wp2_with (refine wpList_load_arr rfl 54 _ rfl B 20 20 5 _ _ rfl q3 sizeCoef Tryz.underlying54 (HPL.out k (by omega)) ?_)
        intro u hu
        replace hu := hu.out
        subst hu
        go_wp2_with fail
        refine (withRoot_own (pad20 (genL k)) (powB 3 (k + 1)) wr (HPL.out k (by omega)) HTB.out (by omega)).mono ?_
        rintro e W5 ⟨rfl, k5⟩
        rw [HW.out k (by omega)]
        have q5 := q3.keep k5 (by omega)
        have qo5 := qo.keep k5 (by omega)
        have qw5 := turn_trans qw k5 (by omega)
        have z5 := k5.size
        clear q3 qo qw hcx
        go_wp2_with (refine wpList_store_arr rfl 54 _ _ rfl B 20 _ _ (pad20 (genL (k + 1))) rfl rfl q5 sizeCoef (HPL.out k (by omega)) (HPL.out (k + 1) (by omega)) ?_)
        intro W6 hW6
        replace hW6 := hW6.out
        have r6 := hW6 ▸ q5.row (pad20 (genL (k + 1)))
        have t6 := hW6 ▸ turn_row W5 B (bys (pad20 (genL (k + 1)))).toArray
        have qo6 := qo5.keep t6 (by omega)
        have qw6 : TurnIn 0 0 w W6 := turn_trans qw5 t6 (by have := HBE.out; omega)
        have z6 := t6.size
        clear hW6 q5 qo5 qw5 t6
        go_wp2_with fail
        go_roundw
        case rel => exact ⟨k + 1, by omega, by go_num, r6, qo6, qw6, by omega⟩
        case measure => simp [intOf]; omega
      · obtain rfl : k = n := by omega
        have hki : ¬ (k : Int) < (k : Int) := by omega
        have hs := q3.seenTake (k := k + 1) (by rw [HPL.out k (by omega)]; omega) (by rw [HPL.out k (by omega)]; omega)
        rw [HPL.out k (by omega), HTK.out k] at hs
        have HS := Lib.hid hs
        have HGL : Hid ((genL k).length = k + 1) := genL_length k
        have hk0 : (0 : Int) ≤ (k : Int) + 1 := by omega
        have hal : Tryz.prog.arrayLen 54 = 20 := by kernel_rfl
        have hk20 : (k : Int) + 1 ≤ ((Tryz.prog.arrayLen 54 : Nat) : Int) := by rw [hal]; omega
        have hsl := sliceCoef B k (by omega)
        clear hs q3 qo hal hk20 hk0
        go_wp2_with fail
        refine (HCC.out _).mono ?_
        rintro e w' ⟨rfl, rfl⟩
        go_wp2_with fail
        refine (cloneB_own _ (genL k) _ HS.out (by rw [HGL.out]; omega) (by rw [HGL.out]; omega)).mono ?_
        rintro e w6 ⟨v6, rfl, o6, k6⟩
        have s6 := qw.size
        have kk := turn_trans qw k6 (by omega)
        have o6' := o6.wider (lo' := w.heap.size) (hi' := w6.heap.size) (by omega) (Nat.le_refl _) (Nat.le_refl _)
        go_wp2_with fail
        go_ret2
        exact ⟨v6, by rw [HE.out]; rfl, by rw [HR.out]; exact o6', kk⟩
  · have HE : Hid (errT t = false) := by show _ = _; simpa using he
    have HR : Hid (genR t = []) := if_neg he
    clear he
    go_enter Tryz.func11, Tryz.ntmps11
    go_wp2_with fail
    refine (goodWrong_any _ _).mono ?_
    rintro e w' ⟨rfl, rfl⟩
    rw [HE.out]
    go_wp2_with fail
    go_ret2
    exact ⟨.slice none 0 0, by rw [HE.out]; rfl, by rw [HR.out]; exact OwnBytes.nil _ _ _, TurnIn.refl _⟩

end Go.Proofs.YtblfobbeojdihaaGreatDoor

/- Chapter 8: the generator: the model's. -/
namespace G294
open Go Go.RowKit
theorem mul_set0 (r : UInt8) (a : List UInt8) (s k : Nat) : (mkRow s (mulF r a k)).set k (mulF r a k k ^^^ gmul (a.getD k 0) r) = mkRow s (fun p => if p = k then mulF r a k k ^^^ gmul (a.getD k 0) r else mulF r a k p) := mkRow_set _ _ _ _
theorem mul_set1 (r : UInt8) (a : List UInt8) (s k : Nat) : (mkRow s (fun p => if p = k then mulF r a k k ^^^ gmul (a.getD k 0) r else mulF r a k p)).set (k + 1) (mulF r a k (k + 1) ^^^ gmul (a.getD k 0) 1) = mkRow s (mulF r a (k + 1)) := by
  rw [mkRow_set]
  exact mkRow_congr fun p _ => mulF_step r a k p
theorem own_set8 {w : World} {E : TypeId} {base g n c : Nat} {l : List UInt8} (h : w.ownsRow base E 1 (.slice (some ⟨g, 0, none⟩) n c) n (bys l)) (k : Nat) (x : UInt8) : (w.setCell ⟨g, k, none⟩ (.int .u8 (x.toNat : Int))).ownsRow base E 1 (.slice (some ⟨g, 0, none⟩) n c) n (bys (l.set k x)) := by
  rw [bys_set]; exact (h.stored k _).1
theorem own_cell8 {w : World} {E : TypeId} {base g n c : Nat} {l : List UInt8} (h : w.ownsRow base E 1 (.slice (some ⟨g, 0, none⟩) n c) n (bys l)) (hn : n = l.length) {k : Nat} (hk : k < n) : w.cell? ⟨g, k, none⟩ = some (.int .u8 ((l.getD k 0).toNat : Int)) := by
  rw [h.cellAt k (by omega), bys_get l k (by omega)]; simp [List.getD, show k < l.length by omega]
end G294
namespace Go.Proofs.YtblfobbeojdihaaGreatDoor
open Go.RowKit G294

set_option maxHeartbeats 400000 in
theorem l8T_any (t : Int) (w : World) : Calls Tryz.prog 29 #[.int .i64 t] w fun e w' => e = .returned (.bool (errT t)) ∧ w = w' := by
  have HC : Hid (Calls Tryz.prog 61 #[.int .i64 t, .int .i64 1, .int .i64 4] w fun e w' => e = .returned (.bool (errT t)) ∧ w = w') := l1In_any t 1 4 w
  go_enter Tryz.func29, Tryz.ntmps29
  go_wp2_with fail
  refine HC.out.mono ?_
  rintro e w' ⟨rfl, rfl⟩
  go_wp2_with fail
  go_ret
  exact ⟨rfl, rfl⟩

set_option maxRecDepth 100000 in
set_option maxHeartbeats 4000000 in
theorem l8Mul_own (v : Value) (a : List UInt8) (gb : Nat) (r : UInt8) (w : World) (hv : Seen w v (bys a)) (h1 : 1 ≤ a.length) (h2 : a.length ≤ 20) (hgb : gb < w.heap.size) (c0 : w.cell? ⟨gb, 0, none⟩ = some (.int .u8 (r.toNat : Int))) (c1 : w.cell? ⟨gb, 1, none⟩ = some (.int .u8 1)) :
    Calls Tryz.prog 63 #[v, .slice (some ⟨gb, 0, none⟩) 2 2] w (RetBytes 5 w (mulR r a)) := by
  obtain ⟨i0, hi0, hz0, hz1, hz2⟩ := info_parts infoByte
  obtain ⟨A, c, rfl, hlc, hcm, hx⟩ := hv
  rw [bys_length] at hlc hx
  simp only [bys_length]
  unfold maxLen at hcm
  have HMR : Hid (mulR r a = mkRow (a.length + 1) (mulF r a a.length)) := rfl
  generalize hnn : a.length = n at *
  have HN := Lib.hid hnn
  clear hnn
  obtain ⟨b, off, rfl, hbl, hcell⟩ := hx (by omega)
  have HX := Lib.hid hcell
  clear hx hcell
  have hbe : ((n : Int) == 0) = false := by simp; omega
  obtain ⟨s, hs⟩ : ∃ s, s = n + 1 := ⟨_, rfl⟩
  obtain ⟨s2, hs2⟩ : ∃ s2, s2 = n + 2 := ⟨_, rfl⟩
  have hw2 : IntKind.i64.wrap ((n : Int) + 2) = (s2 : Int) := by rw [IntWalk.i64_in _ (by omega)]; omega
  have hw1 : IntKind.i64.wrap ((s2 : Int) - 1) = (s : Int) := by rw [IntWalk.i64_in _ (by omega)]; omega
  have hsn : n < s := by omega
  have hs21 : s ≤ 21 := by omega
  have HSN := Lib.hid hs
  rw [← hs] at HMR
  clear hs hs2
  have HL : Hid (∀ F : Nat → UInt8, s = (mkRow s F).length) := fun F => by simp
  have HG : Hid (∀ (F : Nat → UInt8) k, k < s → (mkRow s F).getD k 0 = F k) := fun F k hk => mkRow_getD s F k hk
  have HZ : Hid (bys (mkRow s (mulF r a 0)) = List.replicate s (.int .u8 0)) := bys_zero s _ fun j _ => mulF_zero r a j
  go_enter Tryz.func63, Tryz.ntmps63
  go_wp2_with (at_make; refine wpList_make_full _ rfl _ _ _ rfl w.heap.size _ i0 _ 1 Tryz.underlying22 hi0 hz0 hz1 _ _ _ _ s rfl rfl rfl rfl ?b2 ?b3 ?b4 ?_)
  case b2 => rw [hz2]; omega
  case b3 => unfold maxLen; omega
  case b4 => exact Nat.le_refl _
  intro w1 hown1 hg1
  have hb1 : Below w.heap.size w w1 := below_of_grown hg1 (Nat.le_refl _) (by simp)
  rw [toList_madeCells_one, ← HZ.out] at hown1
  clear hg1
  go_wp2_with fail
  go_loopw [27] (fun i wr => ∃ k : Nat, k ≤ n ∧ i = .int .i64 k ∧ wr.ownsRow w.heap.size 5 1 (.slice (some ⟨w.heap.size, 0, none⟩) s s) s (bys (mkRow s (mulF r a k))) ∧ Below w.heap.size w wr)
    (fun i _ => n - (intOf i).toNat)
  case atStart => exact ⟨0, Nat.zero_le _, rfl, hown1, hb1⟩
  case round =>
    obtain ⟨k, hk, rfl, hown, hb⟩ := hrel
    clear hown1 hb1
    by_cases hlt : k < n
    · have hki : (k : Int) < (n : Int) := by omega
      have hkl : k < a.length := by rw [HN.out]; exact hlt
      have hcx : wr.cell? ⟨b, off + k, none⟩ = some (.int .u8 ((a.getD k 0).toNat : Int)) := by
        have := (hb.cell (p := ⟨b, off + k, none⟩) hbl).trans (HX.out k _ (bys_get a k hkl))
        simpa [List.getD, hkl] using this
      generalize hxk : a.getD k 0 = x at *
      have HXK := Lib.hid hxk
      clear hxk
      generalize wr = wo at *
      go_wp2_with fail
      go_loopw [34] (fun j wq => ((j = .int .i64 0 ∧ wq.ownsRow w.heap.size 5 1 (.slice (some ⟨w.heap.size, 0, none⟩) s s) s (bys (mkRow s (mulF r a k)))) ∨
          (j = .int .i64 1 ∧ wq.ownsRow w.heap.size 5 1 (.slice (some ⟨w.heap.size, 0, none⟩) s s) s (bys (mkRow s (fun p => if p = k then mulF r a k k ^^^ gmul x r else mulF r a k p)))) ∨
          (j = .int .i64 2 ∧ wq.ownsRow w.heap.size 5 1 (.slice (some ⟨w.heap.size, 0, none⟩) s s) s (bys (mkRow s (mulF r a (k + 1)))))) ∧ Below w.heap.size w wq)
        (fun j _ => 2 - (intOf j).toNat)
      case atStart => exact ⟨.inl ⟨rfl, hown⟩, hb⟩
      case round =>
        obtain ⟨hd, hbq⟩ := hrel
        clear hown hb hcx
        have d0 := (hbq.cell (p := ⟨gb, 0, none⟩) hgb).trans c0
        have d1 := (hbq.cell (p := ⟨gb, 1, none⟩) hgb).trans c1
        rcases hd with ⟨rfl, ho⟩ | ⟨rfl, ho⟩ | ⟨rfl, ho⟩
        · have hce := own_cell8 ho (HL.out _) (k := k) (by omega)
          rw [HG.out _ k (by omega)] at hce
          have hfr := ho.frozenAt k
          have hst := own_set8 ho k (mulF r a k k ^^^ gmul x r)
          rw [← HXK.out, mul_set0, HXK.out] at hst
          have hbs : Below w.heap.size w (wr.setCell ⟨w.heap.size, k, none⟩ (.int .u8 ((mulF r a k k ^^^ gmul x r).toNat : Int))) := hbq.setCell (Nat.le_refl _) _
          have HST := Lib.hid hst
          have HBS := Lib.hid hbs
          have HC := Lib.hid (stillA (l1Times_u8 x r wr.drew))
          have hxor := xor_u8 (mulF r a k k) (gmul x r)
          have hks : (k : Int) < (s : Int) := by omega
          have hwk : IntKind.i64.wrap (k : Int) = (k : Int) := IntWalk.i64_in _ (by omega)
          generalize mulF r a k k = y at *
          clear hst hbs ho
          go_wp2_with fail
          refine wp_region_still_tail 11 (by kernel_rfl) (by kernel_rfl) ?_
          simp only [List.take_succ_cons, List.take_zero, List.drop_succ_cons, List.drop_zero]
          repeat (first | still_step | still_call (HC.out))
          refine wpStill_nil ?_
          go_wp2_with fail
          go_roundw
          case rel => exact ⟨.inr (.inl ⟨by go_num, HST.out⟩), below_drewN HBS.out _⟩
          case measure => simp [intOf]
        · have hce := own_cell8 ho (HL.out _) (k := k + 1) (by omega)
          rw [HG.out _ (k + 1) (by omega), if_neg (by omega)] at hce
          have hfr := ho.frozenAt (k + 1)
          have hst := own_set8 ho (k + 1) (mulF r a k (k + 1) ^^^ gmul x 1)
          rw [← HXK.out, mul_set1, HXK.out] at hst
          have hbs : Below w.heap.size w (wr.setCell ⟨w.heap.size, k + 1, none⟩ (.int .u8 ((mulF r a k (k + 1) ^^^ gmul x 1).toNat : Int))) := hbq.setCell (Nat.le_refl _) _
          have HST := Lib.hid hst
          have HBS := Lib.hid hbs
          have HC : Hid _ := Lib.hid (stillA (l1Times_u8 x 1 wr.drew))
          have hxor := xor_u8 (mulF r a k (k + 1)) (gmul x 1)
          generalize mulF r a k (k + 1) = y at *
          obtain ⟨q, hq⟩ : ∃ q, q = k + 1 := ⟨_, rfl⟩
          have hwk : IntKind.i64.wrap ((k : Int) + 1) = (q : Int) := by rw [IntWalk.i64_in _ (by omega)]; omega
          have hks : (q : Int) < (s : Int) := by omega
          rw [← hq] at hce hfr HBS
          have HST2 : Hid ((wr.setCell ⟨w.heap.size, q, none⟩ (.int .u8 ((y ^^^ gmul x 1).toNat : Int))).ownsRow w.heap.size 5 1 (.slice (some ⟨w.heap.size, 0, none⟩) s s) s (bys (mkRow s (mulF r a (k + 1))))) := by rw [hq]; exact HST
          clear hq HST
          clear hst hbs ho
          go_wp2_with fail
          refine wp_region_still_tail 11 (by kernel_rfl) (by kernel_rfl) ?_
          simp only [List.take_succ_cons, List.take_zero, List.drop_succ_cons, List.drop_zero]
          repeat (first | still_step | still_call (HC.out))
          refine wpStill_nil ?_
          go_wp2_with fail
          go_roundw
          case rel => exact ⟨.inr (.inr ⟨by go_num, HST2.out⟩), below_drewN HBS.out _⟩
          case measure => simp [intOf]
        · go_wp2_with fail
          go_roundw
          case rel => exact ⟨k + 1, by omega, by go_num, ho, hbq⟩
          case measure => simp [intOf]; omega
    · obtain rfl : k = n := by omega
      have hki : ¬ (k : Int) < (k : Int) := by omega
      go_wp2_with fail
      go_ret
      exact ⟨_, rfl, OwnBytes.of_made (by rw [HMR.out, ← HL.out]; exact hown), TurnIn.of_below hb⟩

end Go.Proofs.YtblfobbeojdihaaGreatDoor

/- Chapter 8: the model's generator; syndromes, the program's and the model's. -/
namespace G294
open Go Go.RowKit
theorem own_built (w : World) (E : TypeId) (l : List UInt8) (hl : l.length ≤ 1000) : OwnBytes E (w.alloc (.cells (bys l).toArray E)) w.heap.size (w.heap.size + 1) (.slice (some ⟨w.heap.size, 0, none⟩) l.length l.length) l :=
  ⟨⟨by simp, .inr ⟨w.heap.size, l.length, (bys l).toArray, rfl, Nat.le_refl _, heap_alloc_new w _, by simp, by unfold maxLen; omega, by simp, by
    rw [Nat.mul_one]; exact List.take_of_length_le (by simp)⟩⟩, by simp, fun g e => by
    have : w.heap.size = g := Option.some.inj e
    omega⟩
theorem fitW_b {w : List UInt8} {m : Nat} (h1 : 1 ≤ m) (h4 : m ≤ 4) : fitW w (m : Int) = decide (2 * m + 1 ≤ w.length ∧ w.length ≤ 24) := by
  simp only [fitW, errT]
  rw [show decide (1 ≤ (m : Int) ∧ (m : Int) ≤ 4) = true by simp; omega, Bool.true_and, decide_eq_decide]
  omega
theorem fitW_no {w : List UInt8} {t : Int} (h : errT t = false) : fitW w t = false := by simp [fitW, h]
end G294
namespace Go.Proofs.YtblfobbeojdihaaGreatDoor
open Go.RowKit G294

set_option maxRecDepth 100000 in
set_option maxHeartbeats 4000000 in
theorem l8Generator_own (m : Nat) (w : World) (h1 : 1 ≤ m) (h4 : m ≤ 4) : Calls Tryz.prog 31 #[.int .i64 (m : Int)] w (RetBytes 5 w (genL (2 * m))) := by
  obtain ⟨n, hn⟩ : ∃ n, n = 2 * m := ⟨_, rfl⟩
  have hm2 : 2 * (m : Int) = (n : Int) := by omega
  have hn8 : n ≤ 8 := by omega
  rw [← hn]
  clear hn
  have hob := own_built w 5 (genL 0) (by simp)
  have HOB : Hid (OwnBytes 5 (w.alloc (.cells #[.int .u8 1] 5)) w.heap.size (w.heap.size + 1) (.slice (some ⟨w.heap.size, 0, none⟩) 1 1) (genL 0)) := hob
  have HGL := Lib.hid genL_length
  have HGS : Hid (∀ k, mulR (powB 3 (k + 1)) (genL k) = genL (k + 1)) := fun k => rfl
  clear hob
  go_enter Tryz.func31, Tryz.ntmps31
  go_wp2_with fail
  go_loopw [3, 4] (fun o i wr => ∃ k : Nat, k ≤ n ∧ i = .int .i64 ((k : Int) + 1) ∧ OwnBytes 5 wr w.heap.size wr.heap.size o (genL k) ∧ Below w.heap.size w wr)
    (fun _ i _ => n + 1 - (intOf i).toNat)
  case atStart => exact ⟨0, Nat.zero_le _, rfl, HOB.out.wider (Nat.le_refl _) (by simp) (Nat.le_refl _), (Below.refl _ _).alloc (Nat.le_refl _) _⟩
  case round =>
    obtain ⟨k, hk, rfl, ho, hb⟩ := hrel
    by_cases hlt : k < n
    · have hki : (k : Int) + 1 ≤ (n : Int) := by omega
      obtain ⟨g, cp, rfl, hg1, hg2, hcp1, hcp2⟩ := ho.slice (by rw [HGL.out]; omega)
      rw [HGL.out] at ho ⊢
      unfold maxLen at hcp2
      have HP : Hid (Calls Tryz.prog 48 #[.int .u8 3, .int .i64 ((k : Int) + 1)] wr fun e w' => e = .returned (.int .u8 ((powB 3 (k + 1)).toNat : Int)) ∧ wr = w') := l1Pow3 (k + 1) wr (by omega)
      have ta := turn_alloc wr (.cells #[.int .u8 ((powB 3 (k + 1)).toNat : Int), .int .u8 1] 5)
      have za := World.size_alloc wr (.cells #[.int .u8 ((powB 3 (k + 1)).toNat : Int), .int .u8 1] 5)
      have HM := Lib.hid (l8Mul_own (.slice (some ⟨g, 0, none⟩) (k + 1) cp) (genL k) wr.heap.size (powB 3 (k + 1)) (wr.alloc (.cells #[.int .u8 ((powB 3 (k + 1)).toNat : Int), .int .u8 1] 5)) (ho.seen.touch ta) (by rw [HGL.out]; omega) (by rw [HGL.out]; omega) (by rw [za]; omega) (by simp) (by simp))
      have hsz := hb.size
      have HBA : Hid (Below w.heap.size w (wr.alloc (.cells #[.int .u8 ((powB 3 (k + 1)).toNat : Int), .int .u8 1] 5))) := hb.alloc hb.size _
      clear ho ta za
      go_wp2_with fail
      refine HP.out.mono ?_
      rintro e w' ⟨rfl, rfl⟩
      go_wp2_with fail
      refine HM.out.mono ?_
      rintro e w5 ⟨v5, rfl, o5, k5⟩
      rw [HGS.out] at o5
      have hb5 := k5.base HBA.out (by simp; omega) (by omega)
      have o5' := o5.wider (lo' := w.heap.size) (hi' := w5.heap.size) (by simp; omega) (Nat.le_refl _) (Nat.le_refl _)
      clear o5 k5
      go_wp2_with fail
      go_roundw
      case rel => exact ⟨k + 1, by omega, by go_num, o5', hb5⟩
      case measure => simp [intOf]; omega
    · obtain rfl : k = n := by omega
      have hki : ¬ (k : Int) + 1 ≤ (k : Int) := by omega
      go_wp2_with fail
      go_ret
      exact ⟨_, rfl, ho, TurnIn.of_below hb⟩

set_option maxRecDepth 100000 in
set_option maxHeartbeats 4000000 in
theorem syndromesOf_own (v : Value) (l : List UInt8) (t : Int) (w : World) (hv : Seen w v (bys l)) (ht : Tab w) (h0 : 3 < w.heap.size) :
    Calls Tryz.prog 17 #[v, .int .i64 t] w (RetBytesOk 5 w (synR l t) (fitW l t)) := by
  have hv0 := hv
  obtain ⟨A, c, rfl, hlc, hcm, _⟩ := hv
  rw [bys_length] at hlc hv0
  simp only [bys_length]
  unfold maxLen at hcm
  have HV := Lib.hid hv0
  have HT := Lib.hid ht
  clear hv0 ht
  by_cases he : errT t = true
  · obtain ⟨m, rfl, h1, h4⟩ := errT_b he
    have HE := Lib.hid he
    clear he
    have HF : Hid (fitW l (m : Int) = sizB m l.length) := fitW_b h1 h4
    have HLN : Hid (l.length ≤ 24 → fitW l (m : Int) = true → l.length ≤ 1000) := fun h _ => by omega
    by_cases hf : fitW l (m : Int) = true
    · have HR : Hid (synR l (m : Int) = synL l (2 * m)) := by show _ = _; rw [synR_yes hf]; simp
      have hl24 : l.length ≤ 24 := by simp only [fitW, Bool.and_eq_true, decide_eq_true_eq] at hf; omega
      have HFT := Lib.hid hf
      have HSB : Hid (sizB m l.length = true) := by show _ = _; rw [← HF.out]; exact hf
      clear hf
      obtain ⟨n, hn⟩ : ∃ n, n = 2 * m := ⟨_, rfl⟩
      have hn1 : 1 ≤ n := by omega
      have hn8 : n ≤ 8 := by omega
      have HRT : Hid (∀ W : World, Tab W → 3 < W.heap.size → Calls Tryz.prog 36 #[.int .i64 (m : Int)] W (RetBytes 5 W (rootsL n))) := fun W h h' => by rw [hn]; exact rootsOf_own m W h1 h4 h h'
      rw [← hn] at HR
      clear hn
      have HML : Hid (∀ F : Nat → UInt8, (mkRow n F).length = n) := fun F => by simp
      have HRG : Hid (∀ k, k < n → (rootsL n).getD k 0 = powB 3 (k + 1)) := fun k hk => by simp [rootsL, mkRow, List.getD, hk]
      have HMG : Hid (∀ (F : Nat → UInt8) k, k < n → (mkRow n F).getD k 0 = F k) := fun F k hk => mkRow_getD n F k hk
      have HLV : Hid (∀ W : World, Seen W (.slice A l.length c) (bys l) → ∀ x : UInt8, Tab W → 3 < W.heap.size → Calls Tryz.prog 52 #[.slice A l.length c, .int .u8 (x.toNat : Int)] W (RetByte W (hor x l))) := fun W h x h' h'' => valueAt_own _ l x W h (by omega) h' h''
      generalize hll : l.length = q at *
      clear hll
      go_enter Tryz.func17, Tryz.ntmps17
      go_wp2_with fail
      refine (goodWrong_any _ _).mono ?_
      rintro e w' ⟨rfl, rfl⟩
      rw [HE.out]
      go_wp2_with fail
      refine (goodWordSize_any q m _ (by omega) (by omega)).mono ?_
      rintro e w' ⟨rfl, rfl⟩
      rw [HSB.out]
      go_wp2_with fail
      refine (HRT.out _ HT.out h0).mono ?_
      rintro e w1 ⟨v1, rfl, o1, k1⟩
      have o1' : OwnBytes 5 w1 w.heap.size w1.heap.size v1 (mkRow n (fun p => if p < 0 then hor (powB 3 (p + 1)) l else powB 3 (p + 1))) := by
        have : rootsL n = mkRow n (fun p => if p < 0 then hor (powB 3 (p + 1)) l else powB 3 (p + 1)) := mkRow_congr fun p _ => by rw [if_neg (by omega)]
        rw [← this]; exact o1
      have hb1 := k1.to_below
      have z1 := k1.size
      obtain ⟨g, cp, rfl, hg1, hg2, hcp1, hcp2⟩ := o1'.slice (by rw [HML.out]; omega)
      rw [HML.out] at o1' ⊢
      unfold maxLen at hcp2
      clear o1 k1 hcp1
      go_wp2_with fail
      go_loopw [23] (fun i wr => ∃ k : Nat, k ≤ n ∧ i = .int .i64 k ∧ OwnBytes 5 wr w.heap.size w1.heap.size (.slice (some ⟨g, 0, none⟩) n cp) (mkRow n (fun p => if p < k then hor (powB 3 (p + 1)) l else powB 3 (p + 1))) ∧ Below w.heap.size w wr ∧ w1.heap.size ≤ wr.heap.size)
        (fun i _ => n - (intOf i).toNat)
      case atStart => exact ⟨0, Nat.zero_le _, rfl, o1', hb1, Nat.le_refl _⟩
      case round =>
        obtain ⟨k, hk, rfl, ho, hb, hz⟩ := hrel
        clear o1' hb1
        by_cases hlt : k < n
        · have hki : (k : Int) < (n : Int) := by omega
          have hcx := ho.cellAt (k := k) (by rw [HML.out]; exact hlt)
          rw [HMG.out _ k hlt, if_neg (by omega)] at hcx
          have HCV := Lib.hid (HLV.out wr (HV.out.below hb) (powB 3 (k + 1)) (HT.out.below hb h0) (by omega))
          have HO := Lib.hid ho
          clear ho
          go_wp2_with fail
          refine HCV.out.mono ?_
          rintro e w5 ⟨rfl, k5⟩
          have z5 := k5.size
          have ho5 := HO.out.keep k5 (by omega)
          have hc5 := ho5.cellAt (k := k) (by rw [HML.out]; exact hlt)
          have hf5 := ho5.frozenAt k
          obtain ⟨hs5, ts5⟩ := ho5.setB (HML.out _).symm k (hor (powB 3 (k + 1)) l)
          have hs6 : OwnBytes 5 (w5.setCell ⟨g, k, none⟩ (.int .u8 ((hor (powB 3 (k + 1)) l).toNat : Int))) w.heap.size w1.heap.size (.slice (some ⟨g, 0, none⟩) n cp) (mkRow n (fun p => if p < k + 1 then hor (powB 3 (p + 1)) l else powB 3 (p + 1))) := by
            have e : (mkRow n (fun p => if p < k then hor (powB 3 (p + 1)) l else powB 3 (p + 1))).set k (hor (powB 3 (k + 1)) l) = mkRow n (fun p => if p < k + 1 then hor (powB 3 (p + 1)) l else powB 3 (p + 1)) := by
              rw [mkRow_set]
              refine mkRow_congr fun p _ => ?_
              by_cases hp : p = k
              · subst hp; simp
              · by_cases hp2 : p < k
                · simp [hp, hp2, show p < k + 1 by omega]
                · simp [hp, hp2, show ¬ p < k + 1 by omega]
            rw [← e]; exact hs5
          have hb6 : Below w.heap.size w (w5.setCell ⟨g, k, none⟩ (.int .u8 ((hor (powB 3 (k + 1)) l).toNat : Int))) := ts5.base (k5.base hb (by omega) (by omega)) (by omega) (by omega)
          have HS6 := Lib.hid hs6
          have HB6 := Lib.hid hb6
          clear hs5 hs6 ts5 hb6 ho5
          go_wp2_with fail
          go_roundw
          case rel => exact ⟨k + 1, by omega, by go_num, HS6.out, HB6.out, by simp; omega⟩
          case measure => simp [intOf]; omega
        · obtain rfl : k = n := by omega
          have hki : ¬ (k : Int) < (k : Int) := by omega
          have e : mkRow k (fun p => if p < k then hor (powB 3 (p + 1)) l else powB 3 (p + 1)) = synL l k := mkRow_congr fun p hp => by rw [if_pos hp]
          rw [e] at ho
          clear e
          go_wp2_with fail
          go_ret2
          exact ⟨_, by rw [HFT.out]; rfl, by rw [HR.out]; exact ho.wider (Nat.le_refl _) hz (Nat.le_refl _), TurnIn.of_below hb⟩
    · have HFT : Hid (fitW l (m : Int) = false) := by show _ = _; simpa using hf
      have HR : Hid (synR l (m : Int) = []) := synR_no HFT.out
      have HSB : Hid (sizB m l.length = false) := by show _ = _; rw [← HF.out]; exact HFT.out
      clear hf
      have hlm : l.length ≤ 9223372036854775807 := by omega
      generalize hll : l.length = q at *
      clear hll
      go_enter Tryz.func17, Tryz.ntmps17
      go_wp2_with fail
      refine (goodWrong_any _ _).mono ?_
      rintro e w' ⟨rfl, rfl⟩
      rw [HE.out]
      go_wp2_with fail
      refine (goodWordSize_any q m _ (by omega) (by omega)).mono ?_
      rintro e w' ⟨rfl, rfl⟩
      rw [HSB.out]
      go_wp2_with fail
      go_ret2
      exact ⟨.slice none 0 0, by rw [HFT.out]; rfl, by rw [HR.out]; exact OwnBytes.nil _ _ _, TurnIn.refl _⟩
  · have HE : Hid (errT t = false) := by show _ = _; simpa using he
    have HFT : Hid (fitW l t = false) := fitW_no HE.out
    have HR : Hid (synR l t = []) := synR_no HFT.out
    clear he
    generalize hll : l.length = q at *
    clear hll
    go_enter Tryz.func17, Tryz.ntmps17
    go_wp2_with fail
    refine (goodWrong_any _ _).mono ?_
    rintro e w' ⟨rfl, rfl⟩
    rw [HE.out]
    go_wp2_with fail
    go_ret2
    exact ⟨.slice none 0 0, by rw [HFT.out]; rfl, by rw [HR.out]; exact OwnBytes.nil _ _ _, TurnIn.refl _⟩

end Go.Proofs.YtblfobbeojdihaaGreatDoor

/- The model's l2Blank. -/
namespace Go.Proofs.YtblfobbeojdihaaGreatDoor
open Go.RowKit G294

set_option maxRecDepth 100000 in
set_option maxHeartbeats 2000000 in
theorem l2Blank_own (r c : Nat) (w : World) (hr : r ≤ 1000) (hc : c ≤ 1000) : Calls Tryz.prog 97 #[.int .i64 r, .int .i64 c] w (RetMat 5 22 w (mkM r c fun _ _ => 0)) := by
  have hmk := run_make_row' (P := Tryz.prog) 22 5 (.int .u8 0) 1 Tryz.underlying22 infoElemB rfl .i64 .i64 c (by omega) (by omega)
  have hb0 : Below w.heap.size w (w.alloc (.cells #[.slice none 0 0] 70)) := (Below.refl _ _).alloc (Nat.le_refl _) _
  have hb2 : Below w.heap.size w ((w.alloc (.cells #[.slice none 0 0] 70)).alloc (.cells #[.slice none 0 0] 70)) := hb0.alloc (by simp) _
  have hsz : ((w.alloc (.cells #[.slice none 0 0] 70)).alloc (.cells #[.slice none 0 0] 70)).heap.size = w.heap.size + 2 := by simp
  have hM0 : OwnM 5 22 ((w.alloc (.cells #[.slice none 0 0] 70)).alloc (.cells #[.slice none 0 0] 70)) (w.heap.size + 2) (w.heap.size + 2) (.slice none 0 0) (mkM 0 c fun _ _ => 0) [] := hsz ▸ OwnM.nil _ _ _ _
  have HSZ := Lib.hid hsz
  clear hsz
  go_enter Tryz.func97, Tryz.ntmps97
  go_wp2_with fail
  go_loopw [6] (fun i wr => ∃ (k : Nat) (o : Value) (vs : List Value), k ≤ r ∧ i = .int .i64 k ∧ OwnM 5 22 wr (w.heap.size + 2) wr.heap.size o (mkM k c fun _ _ => 0) vs ∧
      wr.cell? ⟨w.heap.size + 1, 0, none⟩ = some o ∧ wr.frozen? ⟨w.heap.size + 1, 0, none⟩ = false ∧ wr.cell? ⟨w.heap.size, 0, none⟩ = some (.slice none 0 0) ∧ wr.frozen? ⟨w.heap.size, 0, none⟩ = false ∧ Below w.heap.size w wr ∧ w.heap.size + 2 ≤ wr.heap.size)
    (fun i _ => r - (intOf i).toNat)
  case atStart => exact ⟨0, .slice none 0 0, [], Nat.zero_le _, rfl, hM0.wider (Nat.le_refl _) (by rw [HSZ.out]; exact Nat.le_refl _) (Nat.le_refl _), by simp, by simp, by simp, by simp, hb2, by rw [HSZ.out]; exact Nat.le_refl _⟩
  case round =>
    obtain ⟨k, o, vs, hk, rfl, hM, hc1, hf1, hc0, hf0, hb, hsz⟩ := hrel
    clear hM0 hb2 hb0
    by_cases hlt : k < r
    · have hki : (k : Int) < (r : Int) := by omega
      have hrow : wr.ownsRow (w.heap.size + 2) 22 1 o k vs := by simpa using hM.row
      obtain ⟨A, n, cp, rfl⟩ := hM.isSlice
      have kW : TurnIn 0 0 wr ((wr.alloc (.cells (madeCells #[.int .u8 0] c) 5)).alloc (.cells #[.slice (some ⟨wr.heap.size, 0, none⟩) c c] 22)).drew := TurnIn.of_below (((Below.refl _ _).alloc (Nat.le_refl _) _).alloc (by simp) _).drew
      have hob : ∀ g, (Value.slice A n cp).ownBlock = some g → w.heap.size + 2 ≤ g := fun g e => (hrow.lt g e).1
      have hne1 : (Value.slice A n cp).ownBlock ≠ some (w.heap.size + 1) := fun e => by have := hob _ e; omega
      have hne0 : (Value.slice A n cp).ownBlock ≠ some w.heap.size := fun e => by have := hob _ e; omega
      have HK := Lib.hid kW
      have hcA : (wr.alloc (.cells (madeCells #[.int .u8 0] c) 5)).cell? ⟨w.heap.size + 1, 0, none⟩ = some (.slice A n cp) := cell_turn (TurnIn.of_below ((Below.refl _ _).alloc (Nat.le_refl _) _)) hc1 (by omega)
      have hcB : ((wr.alloc (.cells (madeCells #[.int .u8 0] c) 5)).alloc (.cells #[.slice (some ⟨wr.heap.size, 0, none⟩) c c] 22)).cell? ⟨w.heap.size + 1, 0, none⟩ = some (.slice A n cp) := cell_turn kW hc1 (by omega)
      clear kW
      go_wp2_with fail
      go_region_law ((refine step_append1 (by rfl) _ _ _ (by rfl) (w.heap.size + 2) 22 _ _ Tryz.underlying68 infoRowB rfl _ k vs (by rfl) (((hrow.alloc _).alloc _).drew) (wr.heap.size + 1) (.slice (some ⟨wr.heap.size, 0, none⟩) c c) (by rfl) (by simp) (by rfl) (by omega) (by omega) (by simp; omega) ?_; intro v' w1 hown1 hg1 hv1; obtain ⟨A', n', cp', rfl⟩ := own_isSlice hown1; have hc1' := (cell_past HK.out hg1 hne1 (by omega) 0).trans hc1; have hf1' := (frozen_past HK.out hg1 hne1 (by omega) 0).trans hf1))
      all_goals
        have hR : OwnBytes 5 ((wr.alloc (.cells (madeCells #[.int .u8 0] c) 5)).alloc (.cells #[.slice (some ⟨wr.heap.size, 0, none⟩) c c] 22)).drew wr.heap.size (wr.heap.size + 1) (.slice (some ⟨wr.heap.size, 0, none⟩) c c) (mkRow c fun _ => 0) := by
          refine ⟨?_, by simp, fun g e => by simp [Value.ownBlock] at e; omega⟩
          rw [bys_zero c _ (fun _ _ => rfl), mkRow_length, ← toList_madeCells_one]
          exact ((World.ownsRow_lit wr (madeCells #[.int .u8 0] c) c (Nat.le_refl _) (by unfold maxLen; omega) (by simp [madeCells])).alloc _).drew
        have hM5 := (((hM.push HK.out hR (Nat.le_refl _) (by omega) (by simpa using hown1) hg1 hv1).keep (turn_setCell w1 (w.heap.size + 1) 0 (.slice A' n' cp')) (by omega)).congr (mkM_succ k c fun _ _ => 0).symm)
        have hw1 : wr.heap.size ≤ w1.heap.size := by have := hg1.size; have := HK.out.size; omega
        have hb5 : Below w.heap.size w (w1.setCell ⟨w.heap.size + 1, 0, none⟩ (.slice A' n' cp')) := Below.setCell (TurnIn.base (TurnIn.of_grown (lo := w.heap.size) (hi := w1.heap.size) hg1 (fun g e => ⟨by have := hob g e; omega, by have := (hM.out g e); omega⟩)) (HK.out.base hb (by omega) (by omega)) (by have := HK.out.size; omega) (by omega)) (Nat.le_succ _) _
        have hq0 := ((cell_past HK.out hg1 hne0 (by omega) 0).trans hc0)
        have hq0f := ((frozen_past HK.out hg1 hne0 (by omega) 0).trans hf0)
        clear hR hown1 hg1 hv1 hM hrow hob hcA hcB hb hc0 hf0
        go_wp2_with fail
        go_roundw
        case rel => exact ⟨k + 1, .slice A' n' cp', vs ++ [.slice (some ⟨wr.heap.size, 0, none⟩) c c], by omega, by go_num, by simpa using hM5, World.cell?_setCell_same _ _ _ hc1', by simp [hf1'], (cell_set_other w1 _ _ _ (by omega)).trans hq0, (frozen_set_other w1 _ _ _ (by omega)).trans hq0f, hb5, by simp; omega⟩
        case measure => simp [intOf]; omega
    · obtain rfl : k = r := by omega
      have hki : ¬ (k : Int) < (k : Int) := by omega
      obtain ⟨A, n, cp, rfl⟩ := hM.isSlice
      go_wp2_with fail
      refine bodyPost_ret (v := .agg #[.slice A n cp]) (by simp [results, Tryz.results97, go_sem, hc0]) rfl ?_
      have kk := turn_setCell wr w.heap.size 0 (.slice A n cp)
      refine ⟨_, vs, rfl, (hM.keep kk (by omega)).wider (by omega) (by simp) (by simp), TurnIn.of_below (hb.setCell (Nat.le_refl _) _)⟩
end Go.Proofs.YtblfobbeojdihaaGreatDoor

/- The model's identity, Vandermonde and Cauchy matrices. -/
namespace G294
open Go Go.RowKit
/-- what a function that fills a matrix keeps: its rows, the variable that holds them, the variable of its result, and old memory -/
structure Fill (E EE : TypeId) (w wr : World) (B : Nat) (v : Value) (L : Mat) (vs : List Value) : Prop where
  own : OwnM E EE wr (w.heap.size + 1) B v L vs
  var : wr.cell? ⟨B, 0, none⟩ = some v
  res : wr.cell? ⟨w.heap.size, 0, none⟩ = some (.slice none 0 0)
  resf : wr.frozen? ⟨w.heap.size, 0, none⟩ = false
  old : Below w.heap.size w wr
  size : B < wr.heap.size
  lo : w.heap.size < B
theorem Fill.drewN {E EE : TypeId} {w wr : World} {B : Nat} {v : Value} {L : Mat} {vs : List Value} (h : Fill E EE w wr B v L vs) (q : Nat) : Fill E EE w (wr.drewN q) B v L vs :=
  ⟨h.own.drewN q, h.var, h.res, h.resf, below_drewN h.old q, h.size, h.lo⟩
theorem Fill.congr {E EE : TypeId} {w wr : World} {B : Nat} {v : Value} {L L' : Mat} {vs : List Value} (h : Fill E EE w wr B v L vs) (e : L = L') : Fill E EE w wr B v L' vs := e ▸ h
theorem Fill.storeF {E EE : TypeId} {w wr : World} {B r c k j bb m cap' : Nat} {F : Ents} {x : UInt8} {v : Value} {vs : List Value} (h : Fill E EE w wr B v (mkM r c F) vs) (hk : k < r) (hu : vs[k]? = some (.slice (some ⟨bb, 0, none⟩) m cap')) :
    Fill E EE w (wr.setCell ⟨bb, j, none⟩ (.int .u8 (x.toNat : Int))) B v (mkM r c fun i jj => if i = k ∧ jj = j then x else F i jj) vs := by
  have ho := h.own.rows k _ hu
  have h1 := (ho.1.lt bb rfl).1
  have h2 := ho.2.2 bb rfl
  have hlo := h.lo
  exact ⟨h.own.storeF hk hu, (cell_set_other wr _ _ _ (by omega)).trans h.var, (cell_set_other wr _ _ _ (by omega)).trans h.res, (frozen_set_other wr _ _ _ (by omega)).trans h.resf, h.old.setCell (show w.heap.size ≤ bb by omega) _, by simpa using h.size, hlo⟩
theorem Fill.start {E EE : TypeId} {w w1 w2 : World} {v : Value} {L : Mat} {vs : List Value} {t : TypeId} (hw2 : w2 = w1.alloc (.cells #[v] t)) (hM : OwnM E EE w1 (w.heap.size + 1) w1.heap.size v L vs) (hc : w1.cell? ⟨w.heap.size, 0, none⟩ = some (.slice none 0 0)) (hf : w1.frozen? ⟨w.heap.size, 0, none⟩ = false)
    (hb : Below w.heap.size w w1) (hs : w.heap.size + 1 ≤ w1.heap.size) : Fill E EE w w2 w1.heap.size v L vs := by
  subst hw2
  have kA : TurnIn 0 0 w1 (w1.alloc (.cells #[v] t)) := TurnIn.of_below ((Below.refl _ _).alloc (Nat.le_refl _) _)
  exact ⟨hM.keep kA (by omega), by simp, cell_turn kA hc (by omega), frozen_turn kA hf (by omega), hb.alloc (by omega) _, by simp, by omega⟩
/-- the rows are stored into the result -/
theorem Fill.finish {E EE : TypeId} {w wr : World} {B : Nat} {v : Value} {L : Mat} {vs : List Value} (h : Fill E EE w wr B v L vs) :
    RetMat E EE w L (.returned (.agg #[v])) (wr.setCell ⟨w.heap.size, 0, none⟩ v) := by
  have kk := turn_setCell wr w.heap.size 0 v
  have hs := h.size
  exact ⟨v, vs, rfl, (h.own.keep kk (by omega)).wider (by omega) (by simp; omega) (by simp), TurnIn.of_below (h.old.setCell (Nat.le_refl _) _)⟩
end G294
namespace Go.Proofs.YtblfobbeojdihaaGreatDoor
open Go.RowKit G294

set_option maxRecDepth 100000 in
set_option maxHeartbeats 2000000 in
theorem l2Identity_own (n : Nat) (w : World) (h1 : 1 ≤ n) (hn : n ≤ 1000) : Calls Tryz.prog 78 #[.int .i64 n] w (RetMat 5 22 w (mkM n n idF)) := by
  have hb0 : Below w.heap.size w (w.alloc (.cells #[.slice none 0 0] 70)) := (Below.refl _ _).alloc (Nat.le_refl _) _
  go_enter Tryz.func78, Tryz.ntmps78
  go_wp2_with fail
  refine (l2Blank_own n n _ hn hn).mono ?_
  rintro e w1 ⟨v, vs, rfl, hM, ht⟩
  obtain ⟨g, cp, rfl, hg1, hg2, hg3, hg4⟩ := hM.sliceF h1
  have hc0 := cell_turn ht (B := w.heap.size) (o := 0) (x := .slice none 0 0) (by simp) (by simp)
  have hf0 := frozen_turn ht (B := w.heap.size) (o := 0) (x := false) (by simp) (by simp)
  have hb1 := ht.base hb0 (by simp) (by omega)
  have hs1 := ht.size
  rw [World.size_alloc] at hs1 hM hg1
  have hF := Fill.start (t := 70) rfl (hM.congr (L' := mkM n n fun i j => if i = j ∧ i < 0 then 1 else 0) (mkM_congr fun i j _ _ => by simp)) hc0 hf0 hb1 hs1
  have HF0 := Lib.hid hF
  clear hM ht hb0 hb1 hc0 hf0 hF
  unfold maxLen at hg4
  have hcB : (w1.alloc (.cells #[.slice (some ⟨g, 0, none⟩) n cp] 70)).cell? ⟨w1.heap.size, 0, none⟩ = some (.slice (some ⟨g, 0, none⟩) n cp) := by simp
  go_wp2_with fail
  generalize w1.alloc (.cells #[.slice (some ⟨g, 0, none⟩) n cp] 70) = w2 at *
  generalize w1.heap.size = B at *
  go_loopw [11] (fun i wr => ∃ k : Nat, k ≤ n ∧ i = .int .i64 k ∧ Hid (Fill 5 22 w wr B (.slice (some ⟨g, 0, none⟩) n cp) (mkM n n fun i j => if i = j ∧ i < k then 1 else 0) vs))
    (fun i _ => n - (intOf i).toNat)
  case atStart => exact ⟨0, Nat.zero_le _, rfl, HF0.out⟩
  case round =>
    obtain ⟨k, hk, rfl, HF⟩ := hrel
    have hvar := HF.out.var
    clear hcB
    by_cases hlt : k < n
    · have hki : (k : Int) < (n : Int) := by omega
      obtain ⟨bb, cp2, hu, e1, e2, e3, e4, e5, hfz, hcell⟩ := HF.out.own.rowF k hlt (by omega)
      have hco := HF.out.own.cellAt hu
      have hcx := hcell k hlt
      have hfr := hfz k
      unfold maxLen at e5
      have HF2 := Lib.hid ((HF.out.storeF (j := k) (x := 1) hlt hu).congr (L' := mkM n n fun i j => if i = j ∧ i < k + 1 then 1 else 0) (mkM_congr fun i j _ _ => by
        by_cases a1 : i = k
        · subst a1
          by_cases a2 : j = i
          · subst a2; simp
          · have a3 : ¬ i = j := fun e => a2 e.symm
            simp [a2, a3]
        · by_cases a2 : i = j
          · subst a2
            by_cases a3 : i < k
            · simp [a1, a3]; omega
            · simp [a1, a3]; omega
          · simp [a1, a2]))
      clear hcell hfz hu e3
      go_wp2_with fail
      go_roundw
      case rel => exact ⟨k + 1, by omega, by go_num, HF2.out⟩
      case measure => simp [intOf]; omega
    · obtain rfl : k = n := by omega
      have hki : ¬ (k : Int) < (k : Int) := by omega
      have hc0 := HF.out.res
      have hf0 := HF.out.resf
      go_wp2_with fail
      refine bodyPost_ret (v := .agg #[.slice (some ⟨g, 0, none⟩) k cp]) (by simp [results, Tryz.results78, go_sem, hc0]) rfl ?_
      exact (HF.out.congr (L' := mkM k k idF) (mkM_congr fun i j hi _ => by simp [idF, hi])).finish

end Go.Proofs.YtblfobbeojdihaaGreatDoor

/- Blocks made one behind the other. -/
namespace G294
open Go Go.RowKit
theorem alloc_mid_cell (w : World) (o1 o3 : Obj) (v : Value) (T : TypeId) : (((w.alloc o1).alloc (.cells #[v] T)).alloc o3).cell? ⟨w.heap.size + 1, 0, none⟩ = some v := by
  have h : ((w.alloc o1).alloc (.cells #[v] T)).cell? ⟨w.heap.size + 1, 0, none⟩ = some v := by simp
  exact cell_turn (turn_alloc _ o3) h (by rw [World.size_alloc, World.size_alloc]; omega)
theorem alloc_mid_frozen (w : World) (o1 o3 : Obj) (v : Value) (T : TypeId) : (((w.alloc o1).alloc (.cells #[v] T)).alloc o3).frozen? ⟨w.heap.size + 1, 0, none⟩ = false := by
  have h : ((w.alloc o1).alloc (.cells #[v] T)).frozen? ⟨w.heap.size + 1, 0, none⟩ = false := by simp
  exact frozen_turn (turn_alloc _ o3) h (by rw [World.size_alloc, World.size_alloc]; omega)
theorem alloc_last_cell (w : World) (o1 o2 : Obj) (v : Value) (T : TypeId) : (((w.alloc o1).alloc o2).alloc (.cells #[v] T)).cell? ⟨w.heap.size + 2, 0, none⟩ = some v := by
  have e : w.heap.size + 2 = ((w.alloc o1).alloc o2).heap.size := by rw [World.size_alloc, World.size_alloc]
  rw [e]; exact (by simp : ∀ w : World, (w.alloc (.cells #[v] T)).cell? ⟨w.heap.size, 0, none⟩ = some v) _
theorem alloc_last_frozen (w : World) (o1 o2 : Obj) (v : Value) (T : TypeId) : (((w.alloc o1).alloc o2).alloc (.cells #[v] T)).frozen? ⟨w.heap.size + 2, 0, none⟩ = false := by
  have e : w.heap.size + 2 = ((w.alloc o1).alloc o2).heap.size := by rw [World.size_alloc, World.size_alloc]
  rw [e]; exact (by simp : ∀ w : World, (w.alloc (.cells #[v] T)).frozen? ⟨w.heap.size, 0, none⟩ = false) _
end G294
