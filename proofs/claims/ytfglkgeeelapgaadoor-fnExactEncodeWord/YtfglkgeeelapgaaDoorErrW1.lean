/- Chapter 8: sizes, roots, slices.Clone of bytes, the generator: the program's. -/
import Derived.Test.YtfglkgeeelapgaaDoorErrMath
import Derived.Test.YtfglkgeeelapgaaDoorArr2
import Derived.Test.YtfglkgeeelapgaaDoorFieldWalksB
import Derived.Lib.AppendZeros
import Derived.Deep.AppendSrc
import Derived.WalkSpells
import Derived.BigRegion
set_option linter.unusedSimpArgs false
set_option linter.unusedVariables false
namespace G294
open Go Go.RowKit
theorem errT_b {t : Int} (h : errT t = true) : ∃ m : Nat, t = m ∧ 1 ≤ m ∧ m ≤ 4 := by
  simp only [errT, decide_eq_true_eq] at h
  exact ⟨t.toNat, by omega, by omega, by omega⟩
def sizB (m n : Nat) : Bool := decide (2 * m < n ∧ n ≤ 24)
/-- append([]T{}, x...) of a row that is not empty: a new row -/
theorem run_appLit {P : Program} (w : World) (t ty e : TypeId) (z : Value) (bytes : Nat) (ht : P.underlying t = some (.slice e)) (hinfo : (P.info? e).map (fun i => (i.zero, i.size, i.bytes)) = some (some z, 1, bytes)) (hzs : z.cells.size = 1)
    (base : Addr) (A : Addr) (m c : Nat) (ys : List Value) (h1m : 1 ≤ m) (hl : ys.length = m) (hc : ∀ j y, ys[j]? = some y → w.cell? (A.add j) = some y) (h1 : ∀ y, y ∈ ys → y.oneCell' = true) (hn : m ≤ 2000000) (hby : bytes ≤ 1000) :
    ∃ cp w', (Builtin.append_ #[t, t] ty #[.slice (some base) 0 0, .slice (some A) m c]).run P w = .ok (.slice (some ⟨w.heap.size, 0, none⟩) m cp) w' ∧ w'.ownsRow w.heap.size e 1 (.slice (some ⟨w.heap.size, 0, none⟩) m cp) m ys ∧ TurnIn 0 0 w w' := by
  obtain ⟨i, hi, hz, hsz, hbs⟩ := info_parts hinfo
  have hge := grownCap_ge w m 0 e
  have hcm : grownCap w m 0 e ≤ maxLen := grownCap_le_maxLen w m 0 e (by unfold maxLen; omega)
  have hb : m * bytes ≤ 2000000 * 1000 := Nat.mul_le_mul hn hby
  have h := run_append_grow_src (P := P) w t t ty e i z ht hi hz (some base) 0 0 [] (by simp [Builtin.firstCells, loadCells, loadCellsFrom]) (.slice (some A) m c) m ys (by rw [hsz]; exact Src.ofSlice w ht A m c ys (by omega) hc h1) (by omega) (by omega) (by rw [Nat.zero_add, nextslicecap_zero (by omega), hbs]; omega)
  rw [Nat.zero_add] at h
  refine ⟨_, _, h, ⟨by omega, .inr ⟨w.heap.size, _, _, rfl, Nat.le_refl _, heap_alloc_new w.drew _, hge, hcm, ?_, ?_⟩⟩, TurnIn.of_below ((Below.refl _ _).drew.alloc (Nat.le_refl _) _)⟩
  · simp only [List.nil_append, Array.size_append, List.size_toArray, size_zeroCells, hzs, hl]; omega
  · simp only [List.nil_append, Array.toList_append, Nat.mul_one]
    rw [← hl]; exact List.take_left
theorem seen_cellsB {w : World} {v : Value} {l : List UInt8} (h : Seen w v (bys l)) (h1 : 1 ≤ l.length) : ∃ b off c, v = .slice (some ⟨b, off, none⟩) l.length c ∧ b < w.heap.size ∧ l.length ≤ 9223372036854775807 ∧ ∀ W, Below w.heap.size w W → ∀ j y, (bys l)[j]? = some y → W.cell? ((⟨b, off, none⟩ : Addr).add j) = some y := by
  obtain ⟨A, c, rfl, hlc, hcm, hx⟩ := h
  rw [bys_length] at hlc hx
  obtain ⟨b, off, rfl, hbl, hcell⟩ := hx (by omega)
  unfold maxLen at hcm
  refine ⟨b, off, c, by rw [bys_length], hbl, by omega, fun W hb j y hj => ?_⟩
  rw [Addr.add_lit]
  exact (hb.cell (p := ⟨b, off + j, none⟩) hbl).trans (hcell j y hj)
theorem own_lowerB {w : World} {e : TypeId} {v : Value} {lo lo' n : Nat} {l : List UInt8} (h : w.ownsRow lo e 1 v n (bys l)) (hl : lo' ≤ lo) (hn : n = l.length) : w.ownsRow lo' e 1 v l.length (bys l) := by
  subst hn
  refine ⟨h.1, ?_⟩
  rcases h.2 with hh | ⟨g, cap, cur, rfl, hbg, rest⟩
  · exact .inl hh
  · exact .inr ⟨g, cap, cur, rfl, Nat.le_trans hl hbg, rest⟩
end G294
namespace Go.Proofs.YtfglkgeeelapgaaDoor
open Go.RowKit G294

set_option maxHeartbeats 400000 in
theorem goodWrong_any (t : Int) (w : World) : Calls Tryd.prog 85 #[.int .i64 t] w fun e w' => e = .returned (.bool (errT t)) ∧ w = w' := by
  by_cases h1 : 1 ≤ t
  · have hd : decide (1 ≤ t) = true := by simpa using h1
    by_cases h2 : t ≤ 4
    · have HV : Hid (errT t = true) := by show errT t = true; simp [errT, h1, h2]
      go_enter Tryd.func85, Tryd.ntmps85
      go_wp2_with fail
      go_ret
      exact ⟨by rw [HV.out]; simp [h2], rfl⟩
    · have HV : Hid (errT t = false) := by show errT t = false; simp [errT, h2]
      go_enter Tryd.func85, Tryd.ntmps85
      go_wp2_with fail
      go_ret
      exact ⟨by rw [HV.out]; simp [h2], rfl⟩
  · have hd : decide (1 ≤ t) = false := by simpa using h1
    have HV : Hid (errT t = false) := by show errT t = false; simp [errT, h1]
    go_enter Tryd.func85, Tryd.ntmps85
    go_wp2_with fail
    go_ret
    exact ⟨by rw [HV.out]; rfl, rfl⟩

set_option maxHeartbeats 400000 in
theorem checkCount_any (m : Nat) (w : World) (hm : m ≤ 100) : Calls Tryd.prog 89 #[.int .i64 (m : Int)] w fun e w' => e = .returned (.int .i64 ((2 * m : Nat) : Int)) ∧ w = w' := by
  obtain ⟨z, hz⟩ : ∃ z : Int, z = 2 * (m : Int) := ⟨_, rfl⟩
  have hzz : 2 * (m : Int) = z := hz.symm
  have hb1 : 0 ≤ z := by omega
  have hb2 : z ≤ 200 := by omega
  have HZ : Hid (z = ((2 * m : Nat) : Int)) := by show _ = _; omega
  clear hz
  go_enter Tryd.func89, Tryd.ntmps89
  go_wp2_with fail
  go_ret
  exact ⟨by rw [HZ.out]; rfl, rfl⟩

set_option maxHeartbeats 400000 in
theorem goodWordSize_any (n m : Nat) (w : World) (hn : n ≤ 9223372036854775807) (hm : m ≤ 100) : Calls Tryd.prog 91 #[.int .i64 (n : Int), .int .i64 (m : Int)] w fun e w' => e = .returned (.bool (sizB m n)) ∧ w = w' := by
  by_cases h1 : 2 * m < n
  · have hd : decide (((2 * m : Nat) : Int) < (n : Int)) = true := by simp; omega
    have hdi : ((2 * m : Nat) : Int) < (n : Int) := by omega
    by_cases h2 : n ≤ 24
    · have HV : Hid (sizB m n = true) := by show _ = _; simp [sizB, h1, h2]
      have h2i : (n : Int) ≤ 24 := by omega
      go_enter Tryd.func91, Tryd.ntmps91
      go_wp2_with fail
      refine (checkCount_any m _ hm).mono ?_
      rintro e w' ⟨rfl, rfl⟩
      generalize 2 * m = z at *
      go_wp2_with fail
      go_ret
      exact ⟨by rw [HV.out]; simp [h2i], rfl⟩
    · have HV : Hid (sizB m n = false) := by show _ = _; simp [sizB, h2]
      have h2i : ¬ (n : Int) ≤ 24 := by omega
      go_enter Tryd.func91, Tryd.ntmps91
      go_wp2_with fail
      refine (checkCount_any m _ hm).mono ?_
      rintro e w' ⟨rfl, rfl⟩
      generalize 2 * m = z at *
      go_wp2_with fail
      go_ret
      exact ⟨by rw [HV.out]; simp [h2i], rfl⟩
  · have hd : decide (((2 * m : Nat) : Int) < (n : Int)) = false := by simp; omega
    have hdi : ¬ ((2 * m : Nat) : Int) < (n : Int) := by omega
    have HV : Hid (sizB m n = false) := by show _ = _; simp [sizB, h1]
    go_enter Tryd.func91, Tryd.ntmps91
    go_wp2_with fail
    refine (checkCount_any m _ hm).mono ?_
    rintro e w' ⟨rfl, rfl⟩
    generalize 2 * m = z at *
    go_wp2_with fail
    go_ret
    exact ⟨by rw [HV.out]; rfl, rfl⟩

theorem powOf3 (n : Nat) (w : World) (hn : n ≤ 1000) (ht : Tab w) : Calls Tryd.prog 110 #[.int .u8 3, .int .i64 (n : Int)] w fun e w' => e = .returned (.int .u8 ((powB 3 n).toNat : Int)) ∧ w = w' := by
  have h := powerOf_any 3 n (by omega) (by omega) w ht
  rw [powB_toNat]; exact h

theorem l1Pow3 (n : Nat) (w : World) (hn : n ≤ 1000) : Calls Tryd.prog 52 #[.int .u8 3, .int .i64 (n : Int)] w fun e w' => e = .returned (.int .u8 ((powB 3 n).toNat : Int)) ∧ w = w' := by
  have h := l1Power_any 3 n (by omega) (by omega) w
  rw [powB_toNat]; exact h

set_option maxRecDepth 100000 in
set_option maxHeartbeats 2000000 in
theorem cloneB_own (v : Value) (l : List UInt8) (w : World) (hv : Seen w v (bys l)) (h1 : 1 ≤ l.length) (h2 : l.length ≤ 1048576) : Calls Tryd.prog 88 #[v] w (RetBytes 5 w l) := by
  obtain ⟨b, off, c, rfl, hbl, hlm, hcell⟩ := seen_cellsB hv h1
  have hbA : Below w.heap.size w (w.alloc (.cells #[] 5)) := (Below.refl _ _).alloc (Nat.le_refl _) _
  obtain ⟨cp, w1, hap, ho, k1⟩ := run_appLit (P := Tryd.prog) (w.alloc (.cells #[] 5)) 22 22 5 _ _ Tryd.underlying22 infoByte rfl ⟨w.heap.size, 0, none⟩ ⟨b, off, none⟩ l.length c (bys l) h1 (bys_length _) (hcell _ hbA) (fun y hy => bys_one y l hy) (by omega) (by omega)
  rw [World.size_alloc] at hap ho
  have HO : Hid (OwnBytes 5 w1 w.heap.size w1.heap.size (.slice (some ⟨w.heap.size + 1, 0, none⟩) l.length cp) l) := Lib.hid ⟨own_lowerB ho (Nat.le_succ _) rfl, Nat.le_refl _, fun g e => (ho.lt g e).2⟩
  have HK := Lib.hid (turn_trans (TurnIn.of_below hbA) k1 (by omega))
  have hq : ∀ W : World, (binOp .eql 22 (.slice (some ⟨b, off, none⟩) l.length c) (.slice none 0 0)).run Tryd.prog W = .ok (.bool false) W := fun W => by
    have h := Lib.run_eql_slice_nil (P := Tryd.prog) W 22 5 (some ⟨b, off, none⟩) l.length c 0 0 Tryd.underlying22
    simpa using h
  clear hcell ho k1 hv
  generalize l.length = n at *
  go_enter Tryd.func88, Tryd.ntmps88
  go_wp2_with (at_builtin; refine Lib.wpList_append_run _ rfl _ _ _ _ rfl _ _ rfl rfl _ _ hap ?_)
  go_wp2_with fail
  go_ret
  exact ⟨_, rfl, HO.out, HK.out⟩

set_option maxRecDepth 100000 in
set_option maxHeartbeats 2000000 in
theorem rootsOf_own (m : Nat) (w : World) (h1 : 1 ≤ m) (h4 : m ≤ 4) (ht : Tab w) (h0 : 2 < w.heap.size) :
    Calls Tryd.prog 86 #[.int .i64 (m : Int)] w (RetBytes 5 w (rootsL (2 * m))) := by
  obtain ⟨i0, hi0, hz0, hz1, hz2⟩ := info_parts infoByte
  have HT := Lib.hid ht
  clear ht
  obtain ⟨n, hn⟩ : ∃ n, n = 2 * m := ⟨_, rfl⟩
  have hn8 : n ≤ 8 := by omega
  have hn1 : 1 ≤ n := by omega
  have HC : Hid (∀ W : World, Calls Tryd.prog 89 #[.int .i64 (m : Int)] W fun e w' => e = .returned (.int .i64 (n : Int)) ∧ W = w') := fun W => by rw [hn]; exact checkCount_any m W (by omega)
  have HBL : Hid ((bys (rootsL n)).length = n) := by show _ = _; simp [rootsL]
  have HG : Hid (∀ k, k < n → (bys (rootsL n))[k]? = some (.int .u8 ((powB 3 (k + 1)).toNat : Int))) := fun k hk => by
    rw [bys_get _ k (by simpa [rootsL] using hk)]; simp [rootsL, mkRow]
  rw [← hn]
  have HL : Hid ((rootsL n).length = n) := by show _ = _; simp [rootsL]
  clear hn
  go_enter Tryd.func86, Tryd.ntmps86
  go_wp2_with fail
  refine (HC.out _).mono ?_
  rintro e w' ⟨rfl, rfl⟩
  go_wp2_with (at_make; refine wpList_make_full _ rfl _ _ _ rfl w.heap.size _ i0 _ 1 Tryd.underlying22 hi0 hz0 hz1 _ _ _ _ n rfl rfl rfl rfl ?b2 ?b3 ?b4 ?_)
  case b2 => rw [hz2]; omega
  case b3 => unfold maxLen; omega
  case b4 => exact Nat.le_refl _
  intro w1 hown1 hg1
  have hb1 : Below w.heap.size w w1 := below_of_grown hg1 (Nat.le_refl _) (by simp)
  rw [toList_madeCells_one] at hown1
  clear hg1
  go_wp2_with fail
  go_loopw [10] (fun i wr => ∃ k : Nat, k ≤ n ∧ i = .int .i64 k ∧ wr.ownsRow w.heap.size 5 1 (.slice (some ⟨w.heap.size, 0, none⟩) n n) n ((bys (rootsL n)).take k ++ List.replicate (n - k) (.int .u8 0)) ∧ Below w.heap.size w wr)
    (fun i _ => n - (intOf i).toNat)
  case atStart => exact ⟨0, Nat.zero_le _, rfl, by simpa using hown1, hb1⟩
  case round =>
    obtain ⟨k, hk, rfl, hown, hb⟩ := hrel
    clear hown1 hb1
    by_cases hlt : k < n
    · have hki : (k : Int) < (n : Int) := by omega
      have hco : wr.cell? ⟨w.heap.size, k, none⟩ = some (.int .u8 0) := by
        have htk : ((bys (rootsL n)).take k).length = k := by rw [List.length_take, HBL.out]; omega
        rw [hown.cellAt k (by omega), List.getElem?_append_right (by omega), htk, Nat.sub_self, List.getElem?_replicate, if_pos (by omega)]
      have hfr := hown.frozenAt k
      have hst := hown.stored k (.int .u8 ((powB 3 (k + 1)).toNat : Int))
      rw [take_set_next _ _ k _ (HG.out k hlt) (by rw [HBL.out]; simp; omega)] at hst
      have HST := Lib.hid hst.1
      have HBB : Hid (Below w.heap.size w (wr.setCell ⟨w.heap.size, k, none⟩ (.int .u8 ((powB 3 (k + 1)).toNat : Int)))) := hb.setCell (Nat.le_refl _) _
      have HP : Hid (Calls Tryd.prog 110 #[.int .u8 3, .int .i64 ((k : Int) + 1)] wr fun e w' => e = .returned (.int .u8 ((powB 3 (k + 1)).toNat : Int)) ∧ wr = w') :=
        powOf3 (k + 1) wr (by omega) (HT.out.below hb h0)
      clear hst
      go_wp2_with fail
      refine HP.out.mono ?_
      rintro e w' ⟨rfl, rfl⟩
      go_wp2_with fail
      go_roundw
      case rel => exact ⟨k + 1, by omega, by go_num, by simpa [Nat.sub_sub] using HST.out, HBB.out⟩
      case measure => simp [intOf]; omega
    · obtain rfl : k = n := by omega
      have hki : ¬ (k : Int) < (k : Int) := by omega
      go_wp2_with fail
      go_ret
      rw [List.take_of_length_le (by rw [HBL.out]; exact Nat.le_refl _), Nat.sub_self] at hown
      exact ⟨_, rfl, OwnBytes.of_made (by rw [HL.out]; simpa using hown), TurnIn.of_below hb⟩

end Go.Proofs.YtfglkgeeelapgaaDoor
