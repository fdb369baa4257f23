/- The walk of FnViterbi. -/
import Derived.Test.YtjgmegfbfjmnfaaRows
import Derived.Test.YtjgmegfbfjmnfaaBd08
import Derived.Test.YtjgmegfbfjmnfaaBd09
import Derived.Test.YtjgmegfbfjmnfaaBd00
import Derived.Test.YtjgmegfbfjmnfaaBd03
import Derived.Laws.StructEq
import Derived.Laws.RangeAny
import Derived.Laws.RangeString
import Derived.Lib.OthersKept
import Derived.WalkSmall
set_option linter.unusedSimpArgs false
set_option linter.unusedVariables false
namespace G294
open Go Go.RowKit

theorem vit_best {r s : List UInt8} {n : Nat} (h : recOk r = true) (hn : r.length = 3 * (n + 2)) (h30 : n ≤ 30) (hb : s.all isBitC = true) (hl : s.length = n) :
    cosOk s r = true ∧ (dcdR r).2 ≤ cosR s r ∧ (cosR s r = (dcdR r).2 → Op.bytesLess s (dcdR r).1 = false) := by
  have hs : encOk10 s = true := by simp [encOk10, bitsOk, hb]; omega
  have hr := (recOk_b h).1
  have hc : cosOk s r = true := by
    simp only [cosOk, dstOk, hs, encR10_bits hs, hr, Bool.true_and, decide_eq_true_eq]
    rw [encR10_len hs, hn, hl]
  have h2 := cosR_yes hc
  obtain ⟨a1, a2, a3, a4⟩ := dcd_best h hn h30
  refine ⟨hc, ?_, ?_⟩
  · rw [h2, a3]
    rcases a4 s hb hl with h | ⟨h, _⟩ <;> omega
  · intro e
    rw [h2, a3] at e
    rcases a4 s hb hl with h | ⟨_, h⟩
    · omega
    · exact h
theorem vit_self {r : List UInt8} {n : Nat} (h : recOk r = true) (hn : r.length = 3 * (n + 2)) (h30 : n ≤ 30) :
    cosOk (dcdR r).1 r = true ∧ cosR (dcdR r).1 r = (dcdR r).2 := by
  obtain ⟨a1, a2, a3, a4⟩ := dcd_best h hn h30
  have h1 := (vit_best h hn h30 a2 a1).1
  exact ⟨h1, by rw [cosR_yes h1, a3]⟩
theorem flip_bit {c : UInt8} (h : isBitC c = true) : isBitC (c ^^^ 1) = true := by
  rcases isBitC_or h with rfl | rfl <;> decide
theorem all_set {s : List UInt8} (h : s.all isBitC = true) (i : Nat) {x : UInt8} (hx : isBitC x = true) : (s.set i x).all isBitC = true := by
  rw [List.all_eq_true] at h ⊢
  intro y hy
  rcases List.mem_or_eq_of_mem_set hy with hy | rfl
  · exact h y hy
  · exact hx
theorem all_at {s : List UInt8} (h : s.all isBitC = true) {i : Nat} (hi : i < s.length) : isBitC (s.getD i 0) = true := by
  rw [List.all_eq_true] at h
  have : s.getD i 0 = s[i] := by simp [List.getD, hi]
  rw [this]; exact h _ (List.getElem_mem hi)
theorem bit_small {c : UInt8} (h : isBitC c = true) : c.toNat < 128 := by
  rcases isBitC_or h with rfl | rfl <;> decide
/-- the first k are bits -/
def bitsTo (l : List UInt8) (k : Nat) : Prop := ∀ j, j < k → isBitC (l.getD j 0) = true
theorem bitsTo_set {l : List UInt8} {k : Nat} {x : UInt8} (h : bitsTo l k) (hx : isBitC x = true) (hk : k < l.length) : bitsTo (l.set k x) (k + 1) := fun j hj => by
  by_cases e : j = k
  · subst e; simpa [List.getD, hk] using hx
  · have := h j (by omega)
    simpa [List.getD, List.getElem?_set, show ¬ k = j from fun h => e h.symm] using this
theorem bitsTo_all {l : List UInt8} (h : bitsTo l l.length) : l.all isBitC = true := by
  rw [List.all_eq_true]
  intro y hy
  obtain ⟨i, hi, rfl⟩ := List.getElem_of_mem hy
  have := h i hi
  simpa [List.getD, hi] using this
theorem bit_of_byte (x : UInt8) : ∃ b : Nat, b < 2 ∧ (x.toNat : Int).tmod 2 = (b : Int) ∧ 48 + (b : Int) = ((chB b).toNat : Int) := by
  refine ⟨x.toNat % 2, by omega, ?_, ?_⟩
  · rw [Int.tmod_eq_emod_of_nonneg (by omega)]; omega
  · have : x.toNat % 2 = 0 ∨ x.toNat % 2 = 1 := by omega
    rcases this with h | h <;> rw [h] <;> decide
theorem str_at {s : List UInt8} {i : Nat} (hi : i < s.length) (h : i < (str s).size) : ((str s)[i]'h).toNat = (s.getD i 0).toNat := by
  have e : (str s)[i]'h = (s.toArray)[i]'(by simpa using hi) := rfl
  rw [e]; simp [List.getD, hi]
theorem turn_iterAt (w : World) (k : Nat) (s : ByteArray) (pos : Nat) : TurnIn k (k + 1) w (w.iterAt k s pos) :=
  ⟨rfl, rfl, rfl, by rw [Lib.iterAt_size]; exact Nat.le_refl _, fun i _ hi => Lib.iterAt_other w k i s pos (by omega)⟩
end G294
namespace Go.Proofs.Ytjgmegfbfjmnfaa
open Go.ChangeShapes Go.WideShapes Go.ChangeAt Go.RowKit G294

theorem neqPath_same (s : List UInt8) (n : Int) (w : World) : (binOp .neq 25 (.agg #[.string (str s), .int .i64 n]) (.agg #[.string (str s), .int .i64 n])).run Try.prog w = .ok (.bool false) w := by
  have hS : Try.prog.underlying 25 = some (.struct (Try.prog.fieldsOf 25)) := by kernel_rfl
  have hp : Try.prog.stoodInHeld 25 = false := by kernel_rfl
  have us := Try.underlying9
  have ui := Try.underlying3
  rw [run_neq_struct, show (10000 : Nat) = 9999 + 1 from rfl, run_equalIn_agg w 9999 25 _ _ hS hp]
  simp only [Program.fieldsOf, Try.underlying25]
  go_simp
  all_goals simp
theorem eqgPath (op : BinOp) (x y : Operand) (s t : List UInt8) (n m : Int) (w : World) : (eqGuard op 25 x y (.agg #[.string (str s), .int .i64 n]) (.agg #[.string (str t), .int .i64 m])).run Try.prog w = .ok () w := run_eqGuard_agg w op 25 x y _ _ (by kernel_rfl)

set_option maxRecDepth 100000 in
set_option maxHeartbeats 8000000 in
theorem viterbi_walk (v u : Value) (l0 m0 : List UInt8) (w : World) (hv : Seen w v (bys l0)) (hu : Seen w u (bys m0)) :
    Calls Try.prog 3 #[v, u] w fun e w' => e = .returned (.bool true) ∧ Below w.heap.size w w' := by
  have HV := Lib.hid hv
  have HSU := Lib.hid hu
  obtain ⟨A, c, rfl, hlc, hcm, hx⟩ := hv
  obtain ⟨A', c', rfl, hlc', hcm', hx'⟩ := hu
  obtain ⟨i0, hi0, hz0, hz1, hz2⟩ := info_parts infoByte
  rw [bys_length] at hlc hlc' HV HSU hx'
  simp only [bys_length]
  have HX := Lib.hid hx'
  clear hx hx'
  unfold maxLen at hcm hcm'
  generalize l0.length = n1 at *
  obtain ⟨n2, hn2⟩ : ∃ n2, n2 = m0.length := ⟨_, rfl⟩
  have HN2 := Lib.hid hn2
  rw [← hn2] at hlc' HSU HX ⊢
  clear hn2
  by_cases hbig : 1048576 < wrap64 ((n1 : Int) + (n2 : Int))
  · go_enter Try.func3, Try.ntmps3
    go_wp2_with fail
    go_ret
    exact ⟨rfl, Below.refl _ _⟩
  have hB := Below.refl w.heap.size w
  go_enter Try.func3, Try.ntmps3
  go_wp2_with fail
  refine (drawDecodeBits_any _ l0 _ HV.out).mono ?_
  rintro e w1 ⟨r, rfl, hr, k1⟩
  have s1 := k1.size
  replace hB := k1.base hB (by omega) (by omega)
  have HR := Lib.hid hr
  clear hr
  by_cases hok : recOk r = true
  · have HOK := Lib.hid hok
    obtain ⟨_, n, hn, h30, _⟩ := recOk_b hok
    have HVB : Hid (∀ s : List UInt8, s.all isBitC = true → s.length = n → cosOk s r = true ∧ (dcdR r).2 ≤ cosR s r ∧ (cosR s r = (dcdR r).2 → Op.bytesLess s (dcdR r).1 = false)) := fun s hb hl => vit_best hok hn h30 hb hl
    have HVS := Lib.hid (vit_self hok hn h30)
    have HPL : Hid ((dcdR r).1.length = n ∧ (dcdR r).1.all isBitC = true) := by
      obtain ⟨a1, a2, _, _⟩ := dcd_best hok hn h30
      exact ⟨a1, a2⟩
    have HBL := Lib.hid (bstR_len r)
    have HDI := Lib.hid (fun W => decodeBits_own r W (by rw [hn]; omega))
    have HDS := Lib.hid (fun W => sDecodeBits_own r W (by rw [hn]; omega))
    have HPI := Lib.hid (fun W => bestPaths_own r W (by rw [hn]; omega))
    have HPS := Lib.hid (fun W => sBestPaths_own r W (by rw [hn]; omega))
    have HCO : Hid (∀ s : List UInt8, s.length ≤ 1000 → ∀ W, Calls Try.prog 18 #[.string (str s), .string (str r)] W (RetIntB W (cosR s r) (cosOk s r))) := fun s hs W => costOf_own s r W (by omega) (by rw [hn]; omega)
    rw [hok] at HDI HDS HPI HPS
    generalize dcdR r = pp at *
    obtain ⟨ps, py⟩ := pp
    simp only at HVB HVS HPL HDI HDS
    generalize bstR r = L at *
    unfold RetPtOk at HDI HDS
    unfold RetPtsOk at HPI HPS
    clear hok hn HR
    have hpsz : (str ps).size = n := by rw [str_size]; exact HPL.out.1
    go_wp2_with fail
    refine (HDI.out _).mono ?_
    rintro e w2 ⟨rfl, k2⟩
    have s2 := k2.size
    replace hB := k2.base hB (by omega) (by omega)
    have a2 := turn_alloc w2 (.cells #[.string (str ps), .int .i64 py] 25)
    have X6 := boxV2_new w2 (.string (str ps)) (.int .i64 py) 25
    replace hB := a2.base hB (by omega) (by omega)
    have HK2 := Lib.hid (turn_trans k2 a2 (by omega))
    have s2a := a2.size
    clear k2 a2
    go_wp2_with fail
    generalize hB6 : w2.heap.size = B6 at *
    generalize (w2.alloc (.cells #[.string (str ps), .int .i64 py] 25)) = w3 at *
    refine (HDS.out _).mono ?_
    rintro e w4 ⟨rfl, k4⟩
    have s4 := k4.size
    replace hB := k4.base hB (by omega) (by omega)
    replace X6 := X6.keep k4 (by omega)
    have a4 := turn_alloc w4 (.cells #[.string (str ps), .int .i64 py] 25)
    have X8 := boxV2_new w4 (.string (str ps)) (.int .i64 py) 25
    have l6 := X6.lt
    replace hB := a4.base hB (by omega) (by omega)
    replace X6 := X6.keep a4 (by omega)
    have HK4 := Lib.hid (turn_trans (turn_trans HK2.out k4 (by omega)) a4 (by omega))
    have s4a := a4.size
    clear k4 a4 HK2
    go_wp2_with fail
    generalize hB8 : w4.heap.size = B8 at *
    generalize (w4.alloc (.cells #[.string (str ps), .int .i64 py] 25)) = w5 at *
    refine (HPI.out _).mono ?_
    rintro e w6 ⟨v6, rfl, o6, k6⟩
    have s6 := k6.size
    replace hB := k6.base hB (by omega) (by omega)
    have l8 := X8.lt
    replace X6 := X6.keep k6 (by omega)
    replace X8 := X8.keep k6 (by omega)
    have HK6 := Lib.hid (turn_trans HK4.out k6 (by omega))
    clear k6 HK4
    obtain ⟨A6, c6, hv6⟩ := o6.seen.len
    subst hv6
    go_wp2_with fail
    refine (HPS.out _).mono ?_
    rintro e w7 ⟨v7, rfl, o7, k7⟩
    have s7 := k7.size
    replace hB := k7.base hB (by omega) (by omega)
    replace X6 := X6.keep k7 (by omega)
    replace X8 := X8.keep k7 (by omega)
    replace o6 := o6.keep k7 (by omega)
    have HK7 := Lib.hid (turn_trans HK6.out k7 (by omega))
    clear k7 HK6
    obtain ⟨A7, c7, hv7⟩ := o7.seen.len
    subst hv7
    have HO6 := Lib.hid o6.seen
    have HO7 := Lib.hid o7.seen
    clear o6 o7
    generalize hll : L.length = nL at *
    have HLL := Lib.hid hll
    clear hll
    have hnL : nL ≤ 4 := HBL.out
    have x60 := X6.c0
    have x61 := X6.c1
    have x80 := X8.c0
    have x81 := X8.c1
    have hne := fun W => neqPath_same ps py W
    have hgd : ∀ (op : BinOp) (x y : Operand) (W : World), (eqGuard op 25 x y (.agg #[.string (str ps), .int .i64 py]) (.agg #[.string (str ps), .int .i64 py])).run Try.prog W = .ok () W := fun op x y W => eqgPath op x y _ _ _ _ W
    have hnn : ((nL : Int) != (nL : Int)) = false := by simp
    have HX6 := Lib.hid X6
    have HBW := Lib.hid hB
    clear X6 X8 hB
    go_wp2_with fail
    clear x60 x61 x80 x81 hne hgd hnn
    go_loopw [77] (fun i wr => ∃ k : Nat, k ≤ nL ∧ i = .int .i64 k ∧ Hid (Below w7.heap.size w7 wr)) (fun i _ => nL - (intOf i).toNat)
    case atStart => exact ⟨0, Nat.zero_le _, rfl, Lib.hid (Below.refl _ _)⟩
    case round =>
      obtain ⟨k, hk, rfl, HBr⟩ := hrel
      by_cases hlt : k < nL
      · obtain ⟨A, c, e1, h1, h2, h3⟩ := HO6.out
        obtain ⟨A', c', e1', h1', h2', h3'⟩ := HO7.out
        simp only [Value.slice.injEq] at e1 e1'
        obtain ⟨rfl, _, rfl⟩ := e1
        obtain ⟨rfl, _, rfl⟩ := e1'
        obtain ⟨b, off, rfl, hbl, hcell⟩ := h3 (by rw [HLL.out]; omega)
        obtain ⟨b', off', rfl, hbl', hcell'⟩ := h3' (by rw [HLL.out]; omega)
        obtain ⟨⟨s, no⟩, hks⟩ := at_lt HLL.out hlt
        have hc1 := (HBr.out.cell (p := ⟨b, off + k * 2, none⟩) hbl).trans (hcell k _ hks).1
        have hc2 := (HBr.out.cell (p := ⟨b, off + k * 2 + 1, none⟩) hbl).trans (hcell k _ hks).2
        have hd1 := (HBr.out.cell (p := ⟨b', off' + k * 2, none⟩) hbl').trans (hcell' k _ hks).1
        have hd2 := (HBr.out.cell (p := ⟨b', off' + k * 2 + 1, none⟩) hbl').trans (hcell' k _ hks).2
        simp only at hc1 hc2 hd1 hd2
        clear hcell hcell' h1 h2 h3 h1' h2' h3' hks
        have hki : (k : Int) < (nL : Int) := by omega
        have hne := fun W => neqPath_same s no W
        have hgd : ∀ (op : BinOp) (x y : Operand) (W : World), (eqGuard op 25 x y (.agg #[.string (str s), .int .i64 no]) (.agg #[.string (str s), .int .i64 no])).run Try.prog W = .ok () W := fun op x y W => eqgPath op x y _ _ _ _ W
        go_wp2_with fail
        go_quiet (fail)
        go_wp2_with fail
        go_roundw
        case rel => exact ⟨k + 1, by omega, by go_num, below_drewN HBr.out _⟩
        case measure => simp [intOf]; omega
      · obtain rfl : k = nL := by omega
        have hki : ¬ (k : Int) < (k : Int) := by omega
        have X6 := HX6.out.keep (TurnIn.of_below HBr.out) (by omega)
        have hB := HBW.out.trans (HBr.out.mono (by omega))
        have x60 := X6.c0
        have x61 := X6.c1
        have HX6r := Lib.hid X6
        have HBR := Lib.hid hB
        clear X6 hB HX6 HBW
        have HC := HCO.out ps (by rw [HPL.out.1]; omega)
        rw [HVS.out.1, HVS.out.2] at HC
        unfold RetIntB at HC
        go_wp2_with fail
        refine (HC _).mono ?_
        rintro e w8 ⟨rfl, k8⟩
        have s8 := k8.size
        have sr := HBr.out.size
        have X6 := HX6r.out.keep k8 (by omega)
        have hB := k8.base HBR.out (by omega) (by omega)
        have x60 := X6.c0
        have x61 := X6.c1
        have hpy : ((py : Int) != py) = false := by simp
        have hl6 := X6.lt
        have HX8 := Lib.hid X6
        have HB8 := Lib.hid hB
        clear X6 hB HX6r HBR k8 HC
        go_wp2_with (at_make; refine wpList_make_full _ rfl _ _ _ rfl w8.heap.size _ i0 _ 1 Try.underlying22 hi0 hz0 hz1 _ _ _ _ n rfl rfl rfl rfl ?b2 ?b3 ?b4 ?_)
        case b2 => rw [hz2]; omega
        case b3 => unfold maxLen; omega
        case b4 => exact Nat.le_refl _
        intro w9 hown1 hg1
        have hb9 : Below w8.heap.size w8 w9 := below_of_grown hg1 (Nat.le_refl _) (by simp)
        rw [toList_madeCells_one, ← bys_rep0 n] at hown1
        have hO1 : OwnBytes 5 w9 w8.heap.size w9.heap.size (.slice (some ⟨w8.heap.size, 0, none⟩) n n) (List.replicate n 0) := by
          refine OwnBytes.of_made ?_
          simpa using hown1
        have s9 := hb9.size
        have t9 := TurnIn.of_below hb9
        have HX9 := Lib.hid (HX8.out.keep t9 (by omega))
        have HB9 := Lib.hid (t9.base HB8.out (by omega) (by omega))
        have HO9 : Hid ((List.replicate n (0 : UInt8)).length = n ∧ OwnBytes 5 w9 w8.heap.size w9.heap.size (.slice (some ⟨w8.heap.size, 0, none⟩) n n) (List.replicate n 0)) := ⟨by simp, hO1⟩
        have hBlt : w8.heap.size < w9.heap.size := hO1.2.2 _ rfl
        clear x60 x61 hpy hg1 hown1 hO1 hb9 t9 HX8 HB8
        have hll8 : B6 < w8.heap.size := hl6
        generalize hBB : w8.heap.size = B at *
        obtain ⟨H, hH⟩ : ∃ H, H = w9.heap.size := ⟨_, rfl⟩
        rw [← hH] at HO9 hBlt
        generalize List.replicate n (0 : UInt8) = lz at *
        have hwB : w.heap.size ≤ B := by omega
        go_wp2_with fail
        go_loopw [18] (fun i wr => ∃ (k : Nat) (l : List UInt8), k ≤ 8 ∧ i = .int .i64 k ∧ Hid (l.length = n ∧ OwnBytes 5 wr B H (.slice (some ⟨B, 0, none⟩) n n) l) ∧ Hid (TurnIn B H w9 wr)) (fun i _ => 8 - (intOf i).toNat)
        case atStart => exact ⟨0, lz, by omega, rfl, HO9, Lib.hid ⟨rfl, rfl, rfl, Nat.le_refl _, fun _ _ _ => rfl⟩⟩
        case round =>
          obtain ⟨k, l, hk8, rfl, HOl, HTl⟩ := hrel
          have sl := HTl.out.size
          by_cases hlt8 : k < 8
          · have hki : (k : Int) < 8 := by omega
            go_wp2_with fail
            go_loopw [120] (fun i wi => ∃ (j : Nat) (l : List UInt8), j ≤ n ∧ i = .int .i64 j ∧ Hid (l.length = n ∧ bitsTo l j ∧ OwnBytes 5 wi B H (.slice (some ⟨B, 0, none⟩) n n) l) ∧ Hid (TurnIn B H w9 wi)) (fun i _ => n - (intOf i).toNat)
            case atStart => exact ⟨0, l, by omega, rfl, Lib.hid ⟨HOl.out.1, fun j hj => by omega, HOl.out.2⟩, HTl⟩
            case round =>
              obtain ⟨j, l, hjn, rfl, HOj, HTj⟩ := hrel
              have sj := HTj.out.size
              clear HOl HTl
              by_cases hjlt : j < n
              · have hji : (j : Int) < (n : Int) := by omega
                obtain ⟨q, hq⟩ : ∃ q, q = k * n := ⟨_, rfl⟩
                have hq2 : q ≤ 240 := by rw [hq]; exact Nat.le_trans (Nat.mul_le_mul (show k ≤ 8 by omega) h30) (by omega)
                have hkq : (k : Int) * (n : Int) = (q : Int) := by rw [hq]; exact (Int.natCast_mul k n).symm
                obtain ⟨p, hp⟩ : ∃ p, p = j + q := ⟨_, rfl⟩
                have hpb : p ≤ 300 := by omega
                have hjq : (j : Int) + (q : Int) = (p : Int) := by omega
                have hcs := HOj.out.2.2.cellAt (k := j) (by rw [HOj.out.1]; exact hjlt)
                have hfr := HOj.out.2.2.frozenAt j
                have e48 : (((48 : UInt8).toNat : Nat) : Int) = 48 := by decide
                have hOa := HOj.out.2.2.store (q := j) (x := 48) (l' := l.set j 48) HOj.out.1 rfl
                rw [e48] at hOa
                have hTa := turn_trans HTj.out (turn_setCell _ B j (.int .u8 48)) (by omega)
                have hla : (l.set j 48).length = n := by rw [List.length_set]; exact HOj.out.1
                have hba := bitsTo_set HOj.out.2.1 (show isBitC 48 = true by decide) (by rw [HOj.out.1]; exact hjlt)
                clear hq hp e48
                by_cases hpn : p < n2
                · have hpi : (p : Int) < (n2 : Int) := by omega
                  obtain ⟨b', off', rfl, hbl', hcell'⟩ := HX.out (by omega)
                  have hpm : p < m0.length := by rw [← HN2.out]; exact hpn
                  have hwi : w.heap.size ≤ w9.heap.size := by omega
                  have hcu := (World.cell?_of_block (a := ⟨b', off' + p, none⟩) ((turn_trans HTj.out (turn_setCell _ B j (.int .u8 48)) (by omega)).block b' (by omega) (by omega))).trans ((HB9.out.cell (p := ⟨b', off' + p, none⟩) hbl').trans (hcell' p _ (bys_get m0 p hpm)))
                  generalize m0[p] = x at hcu
                  obtain ⟨bb, hb2, hrem, hadd⟩ := bit_of_byte x
                  have hx0 := x.toNat_lt
                  have hcs2 := hOa.cellAt (k := j) (by rw [hla]; exact hjlt)
                  have hfr2 := hOa.frozenAt j
                  have HOb := hOa.store (q := j) (x := chB bb) (l' := (l.set j 48).set j (chB bb)) hla rfl
                  have HTb := turn_trans hTa (turn_setCell _ B j (.int .u8 ((chB bb).toNat : Int))) (by omega)
                  rw [← hadd] at HOb HTb
                  have hlb : ((l.set j 48).set j (chB bb)).length = n := by rw [List.length_set]; exact hla
                  have hbb : bitsTo ((l.set j 48).set j (chB bb)) (j + 1) := by
                    have := bitsTo_set (k := j) (fun i hi => hba i (by omega)) (isBit_chB hb2) (by rw [hla]; exact hjlt)
                    exact this
                  have HOB := Lib.hid (And.intro hlb (And.intro hbb HOb))
                  have HTB := Lib.hid HTb
                  clear hOa hTa hla hba HOb HTb hlb hbb hcell' hbl' hadd HOj HTj
                  go_wp2_with fail
                  go_roundw
                  case rel => exact ⟨j + 1, _, by omega, by go_num, HOB, HTB⟩
                  case measure => simp [intOf]; omega
                · have hpi : ¬ (p : Int) < (n2 : Int) := by omega
                  have HOB := Lib.hid (And.intro hla (And.intro hba hOa))
                  have HTB := Lib.hid hTa
                  clear hOa hTa hla hba HOj HTj
                  go_wp2_with fail
                  go_roundw
                  case rel => exact ⟨j + 1, _, by omega, by go_num, HOB, HTB⟩
                  case measure => simp [intOf]; omega
              · obtain rfl : j = n := by omega
                have hji : ¬ (j : Int) < (j : Int) := by omega
                have hbt := HOj.out.2.1
                have hlen := HOj.out.1
                rw [← hlen] at hbt
                have hall := bitsTo_all hbt
                obtain ⟨g1, g2, g3⟩ := HVB.out l hall hlen
                have HC := HCO.out l (by omega)
                rw [g1] at HC
                unfold RetIntB at HC
                have hconv := run_string_seen (P := Try.prog) 22 5 9 Try.underlying22 Try.underlying5 Try.underlying9 HOj.out.2.2.seen
                generalize hcc : cosR l r = cc at *
                have G2 := Lib.hid g2
                have G3 := Lib.hid g3
                clear g1 g2 g3 hall hbt hcc
                go_wp2_with fail
                refine (HC _).mono ?_
                rintro e w10 ⟨rfl, k10⟩
                have hT10 := turn_trans HTj.out k10 (by omega)
                have hX10 := HX9.out.keep hT10 (by omega)
                have x60 := hX10.c0
                have x61 := hX10.c1
                have hO10 := HOj.out.2.2.keep k10 (by omega)
                have hconv := run_string_seen (P := Try.prog) 22 5 9 Try.underlying22 Try.underlying5 Try.underlying9 hO10.seen
                have e1 := str_toList l
                have e2 := str_toList ps
                have hlt1 : decide (cc < py) = false := by have := G2.out; simp; omega
                have HOt := Lib.hid (And.intro hlen hO10)
                have HTt := Lib.hid hT10
                clear hT10 hX10 hO10 HC k10 HOj HTj hlen
                by_cases e : cc = py
                · have hbl := G3.out e
                  have heq : ((cc : Int) == py) = true := by simpa using e
                  clear e
                  go_wp2_with fail
                  go_roundw
                  case rel => exact ⟨k + 1, l, by omega, by go_num, HOt, HTt⟩
                  case measure => simp [intOf]; omega
                · have heq : ((cc : Int) == py) = false := by simpa using e
                  go_wp2_with fail
                  go_roundw
                  case rel => exact ⟨k + 1, l, by omega, by go_num, HOt, HTt⟩
                  case measure => simp [intOf]; omega
          · obtain rfl : k = 8 := by omega
            have hki : ¬ ((8 : Nat) : Int) < 8 := by omega
            have hX10 := HX9.out.keep HTl.out (by omega)
            have hBe := HTl.out.base HB9.out (by omega) (by omega)
            have x60 := hX10.c0
            have l6 := hX10.lt
            have it : TurnIn 0 0 wr (wr.iter (str ps) 0) := turn_alloc wr (.stringIter (str ps) 0)
            have hsz := it.size
            have HXi := Lib.hid (hX10.keep it (by omega))
            have HBi := Lib.hid (it.base hBe (by omega) (by omega))
            have HIT : Hid ((wr.iter (str ps) 0).heap[wr.heap.size]? = some (.stringIter (str ps) 0)) := World.iter_heap wr (str ps) 0
            have hwK := hBe.size
            clear hX10 hBe it HOl HTl
            go_wp2_with fail
            generalize wr.iter (str ps) 0 = wI at *
            generalize hK : wr.heap.size = K at *
            clear x60
            go_loopw [23] (fun _ wi => ∃ pos : Nat, pos ≤ n ∧ Hid (wi.heap[K]? = some (.stringIter (str ps) pos)) ∧ Hid (BoxV2 B6 (.string (str ps)) (.int .i64 py) wi) ∧ Hid (Below w.heap.size w wi)) (fun _ wi => n - wi.iterPos K)
            case atStart => exact ⟨0, Nat.zero_le _, HIT, HXi, HBi⟩
            case round =>
              obtain ⟨pos, hpos, HI, HX2, HB2⟩ := hrel
              have hp0 := iterPos_of HI.out
              have l6' := HX2.out.lt
              have hsw := HB2.out.size
              have hKl : K < wr.heap.size := (Array.getElem?_eq_some_iff.1 HI.out).1
              by_cases hlt : pos < n
              · have hps : pos < (str ps).size := by rw [hpsz]; exact hlt
                have hpl : pos < ps.length := by rw [HPL.out.1]; exact hlt
                have hbit := all_at HPL.out.2 hpl
                have ha : ((str ps)[pos]'hps).toNat < 128 := by rw [str_at hpl hps]; exact bit_small hbit
                have hnx : ∀ ty, (Instr.next (.pointer (some ⟨K, 0, none⟩)) true ty).run Try.prog wr = _ := fun ty => Lib.run_next_ascii_at wr K (str ps) pos ty HI.out hps ha
                have HI2 := Lib.hid (Lib.iterAt_heap wr K (str ps) pos (pos + 1) HI.out)
                have ti := turn_iterAt wr K (str ps) (pos + 1)
                have HX3 := Lib.hid (HX2.out.keep ti (by omega))
                have HB3 := Lib.hid (ti.base HB2.out (by omega) (by omega))
                have szi := ti.size
                clear ti
                generalize wr.iterAt K (str ps) (pos + 1) = w11 at *
                obtain ⟨cp, w12, hcv, hby, k12⟩ := bytb_of_str (P := Try.prog) w11 9 22 5 ps Try.underlying9 Try.underlying22 Try.underlying5 (by rw [HPL.out.1]; unfold maxLen; omega)
                have hcp1 := hby.le
                have hcp2 := hby.mx
                unfold maxLen at hcp2
                rw [HPL.out.1] at hcv hcp1
                have s12 := k12.size
                have hB2l := hby.lt
                have x60 := HX3.out.c0
                obtain ⟨B2, hB2⟩ : ∃ B2, B2 = w11.heap.size := ⟨_, rfl⟩
                have hK11 : K < w11.heap.size := by omega
                rw [← hB2] at hcv hby szi s12 hB2l
                have hcs := hby.cell pos hpl
                have hfr := hby.free pos (by omega)
                generalize hgx : ps.getD pos 0 = y at *
                have hxor := xor_one y
                have hst := hby.store (q := pos) (x := y ^^^ 1) hpl rfl
                have ts := turn_setCell w12 B2 pos (.int .u8 ((y ^^^ 1).toNat : Int))
                have hseen := hst.seen
                have hlen2 : (ps.set pos (y ^^^ 1)).length = n := by rw [List.length_set]; exact HPL.out.1
                rw [hlen2] at hseen
                have hconv := run_string_seen (P := Try.prog) 22 5 9 Try.underlying22 Try.underlying5 Try.underlying9 hseen
                obtain ⟨g1, g2, g3⟩ := HVB.out (ps.set pos (y ^^^ 1)) (all_set HPL.out.2 pos (flip_bit hbit)) hlen2
                have HC := HCO.out (ps.set pos (y ^^^ 1)) (by omega)
                rw [g1] at HC
                unfold RetIntB at HC
                generalize cosR (ps.set pos (y ^^^ 1)) r = cc at *
                have hlt1 : decide (cc < py) = false := by simp; omega
                have T13 := Lib.hid (turn_trans k12 ts (by omega))
                generalize ps.set pos (y ^^^ 1) = l2 at *
                generalize y ^^^ 1 = y2 at *
                clear hby hst ts hseen k12 g1 g2 g3 hgx hbit ha hlen2 hB2
                go_wp2_with fail
                refine (HC _).mono ?_
                rintro e w14 ⟨rfl, k14⟩
                have T14 := turn_trans T13.out k14 (by omega)
                have X14 := HX3.out.keep T14 (by omega)
                have x60 := X14.c0
                have x61 := X14.c1
                have HX14 := Lib.hid X14
                have HB14 := Lib.hid (T14.base HB3.out (by omega) (by omega))
                have HI14 : Hid (w14.heap[K]? = some (.stringIter (str ps) (pos + 1))) := (T14.block K (by omega) (by omega)).trans HI2.out
                have hp14 := iterPos_of HI14.out
                clear T14 X14 k14 HC
                go_wp2_with fail
                go_roundw
                case rel => exact ⟨pos + 1, by omega, HI14, HX14, HB14⟩
                case measure => rw [hp14, hp0]; omega
              · obtain rfl : pos = n := by omega
                have hnx : ∀ ty, (Instr.next (.pointer (some ⟨K, 0, none⟩)) true ty).run Try.prog wr = _ := fun ty => Lib.run_next_end_at wr K (str ps) pos ty HI.out (by rw [hpsz]; omega)
                go_wp2_with fail
                go_ret
                exact ⟨rfl, HB2.out⟩
  · have hno : recOk r = false := by simpa using hok
    have hr := HR.out
    have HD0 : Hid ((dcdR r).2 = 0) := by show _ = _; rw [dcdR_no hno]
    have HBL : Hid ((bstR r).length = 0) := by show _ = _; rw [bstR_no hno]; rfl
    have HDI := Lib.hid (fun W => decodeBits_own r W (by omega))
    have HDS := Lib.hid (fun W => sDecodeBits_own r W (by omega))
    have HPI := Lib.hid (fun W => bestPaths_own r W (by omega))
    have HPS := Lib.hid (fun W => sBestPaths_own r W (by omega))
    rw [hno] at HDI HDS HPI HPS
    generalize dcdR r = pp at *
    obtain ⟨ps, py⟩ := pp
    simp only at HD0 HDI HDS
    have hd0 := HD0.out
    subst hd0
    generalize bstR r = L at *
    unfold RetPtOk at HDI HDS
    unfold RetPtsOk at HPI HPS
    clear hok hno HR
    go_wp2_with fail
    refine (HDI.out _).mono ?_
    rintro e w2 ⟨rfl, k2⟩
    have s2 := k2.size
    replace hB := k2.base hB (by omega) (by omega)
    have a2 := turn_alloc w2 (.cells #[.string (str ps), .int .i64 0] 25)
    have X6 := boxV2_new w2 (.string (str ps)) (.int .i64 0) 25
    replace hB := a2.base hB (by omega) (by omega)
    have HK2 := Lib.hid (turn_trans k2 a2 (by omega))
    have s2a := a2.size
    clear k2 a2
    go_wp2_with fail
    generalize hB6 : w2.heap.size = B6 at *
    generalize (w2.alloc (.cells #[.string (str ps), .int .i64 0] 25)) = w3 at *
    refine (HDS.out _).mono ?_
    rintro e w4 ⟨rfl, k4⟩
    have s4 := k4.size
    replace hB := k4.base hB (by omega) (by omega)
    replace X6 := X6.keep k4 (by omega)
    have a4 := turn_alloc w4 (.cells #[.string (str ps), .int .i64 0] 25)
    have X8 := boxV2_new w4 (.string (str ps)) (.int .i64 0) 25
    have l6 := X6.lt
    replace hB := a4.base hB (by omega) (by omega)
    replace X6 := X6.keep a4 (by omega)
    have HK4 := Lib.hid (turn_trans (turn_trans HK2.out k4 (by omega)) a4 (by omega))
    have s4a := a4.size
    clear k4 a4 HK2
    go_wp2_with fail
    generalize hB8 : w4.heap.size = B8 at *
    generalize (w4.alloc (.cells #[.string (str ps), .int .i64 0] 25)) = w5 at *
    refine (HPI.out _).mono ?_
    rintro e w6 ⟨v6, rfl, o6, k6⟩
    have s6 := k6.size
    replace hB := k6.base hB (by omega) (by omega)
    have l8 := X8.lt
    replace X6 := X6.keep k6 (by omega)
    replace X8 := X8.keep k6 (by omega)
    have HK6 := Lib.hid (turn_trans HK4.out k6 (by omega))
    clear k6 HK4
    obtain ⟨A6, c6, hv6⟩ := o6.seen.len
    subst hv6
    go_wp2_with fail
    refine (HPS.out _).mono ?_
    rintro e w7 ⟨v7, rfl, o7, k7⟩
    have s7 := k7.size
    replace hB := k7.base hB (by omega) (by omega)
    replace X6 := X6.keep k7 (by omega)
    replace X8 := X8.keep k7 (by omega)
    replace o6 := o6.keep k7 (by omega)
    have HK7 := Lib.hid (turn_trans HK6.out k7 (by omega))
    clear k7 HK6
    obtain ⟨A7, c7, hv7⟩ := o7.seen.len
    subst hv7
    have HO6 := Lib.hid o6.seen
    have HO7 := Lib.hid o7.seen
    clear o6 o7
    generalize L.length = nL at *
    obtain rfl : nL = 0 := HBL.out
    have x60 := X6.c0
    have x61 := X6.c1
    have x80 := X8.c0
    have x81 := X8.c1
    have hne := fun W => neqPath_same ps 0 W
    have hgd : ∀ (op : BinOp) (x y : Operand) (W : World), (eqGuard op 25 x y (.agg #[.string (str ps), .int .i64 0]) (.agg #[.string (str ps), .int .i64 0])).run Try.prog W = .ok () W := fun op x y W => eqgPath op x y _ _ _ _ W
    have HX6 := Lib.hid X6
    have HBW := Lib.hid hB
    clear X6 X8 hB
    go_wp2_with fail
    clear x60 x61 x80 x81 hne hgd
    go_loopw [77] (fun i wr => i = .int .i64 0 ∧ Hid (Below w7.heap.size w7 wr)) (fun i _ => 0)
    case atStart => exact ⟨rfl, Lib.hid (Below.refl _ _)⟩
    case round =>
      obtain ⟨rfl, HBr⟩ := hrel
      have X6 := HX6.out.keep (TurnIn.of_below HBr.out) (by omega)
      have hB := HBW.out.trans (HBr.out.mono (by omega))
      have x60 := X6.c0
      have x61 := X6.c1
      go_wp2_with fail
      go_ret
      exact ⟨rfl, hB⟩

set_option maxRecDepth 100000 in
theorem walk_FnViterbi : G294.LawWalk Try.prog 3 Try.f3 Rows.fnViterbiSpec.vars false (fun _ => True) := by
  intro H enc W base args ds gs before hval hW hX
  have hlt0 : ∀ p ∈ before, p.block < W.heap.size := fun p hp => hW.lt p hp
  obtain ⟨p, q, hA, hV, rfl, hfz, hnd⟩ := hW
  rw [Try.params3] at hA hval
  obtain ⟨u0, u1, d0, d1, p0, p1, rfl, rfl, rfl, t0, t1⟩ := trodAll_two hA
  obtain ⟨l0, sn0⟩ := seen_bytes Try.underlying22 Try.underlying5 (by kernel_rfl) (hval 0 22 u0 rfl rfl) t0 (fun x hx => hlt0 x (by simp [hx]))
  obtain ⟨l1, sn1⟩ := seen_bytes Try.underlying22 Try.underlying5 (by kernel_rfl) (hval 1 22 u1 rfl rfl) t1 (fun x hx => hlt0 x (by simp [hx]))
  exact viterbi_walk u0 u1 l0 l1 W sn0 sn1

end Go.Proofs.Ytjgmegfbfjmnfaa
