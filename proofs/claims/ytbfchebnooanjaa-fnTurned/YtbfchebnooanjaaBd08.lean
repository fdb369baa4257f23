/- Joined texts: NxtI, RstX, TrnMath, CurP, NxtS. -/
import Derived.Test.YtbfchebnooanjaaBd07
import Derived.Test.YtbfchebnooanjaaBd00
import Derived.Test.YtbfchebnooanjaaBd06
set_option linter.unusedSimpArgs false
set_option linter.unusedVariables false
/- Chapter 11: NextOf, the program's. -/
namespace G294
open Go Go.RowKit
theorem OwnInts.storeI {E : TypeId} {w : World} {lo hi g n cap q : Nat} {l l' : List Int} {x : Int} (h : OwnInts E w lo hi (.slice (some ⟨g, 0, none⟩) n cap) l) (hn : l.length = n) (e : l.set q x = l') :
    OwnInts E (w.setCell ⟨g, q, none⟩ (.int .i64 x)) lo hi (.slice (some ⟨g, 0, none⟩) n cap) l' := by
  have h1 := h.1
  rw [hn] at h1
  have hst := h1.stored q (.int .i64 x)
  refine ⟨?_, by simpa using h.2.1, h.2.2⟩
  have e2 : ints l' = (ints l).set q (.int .i64 x) := by rw [← e]; simp [ints, List.map_set]
  have e3 : l'.length = n := by rw [← e]; simpa using hn
  rw [e2, e3]
  exact hst.1
theorem natI_set (l : List Nat) (q x : Nat) : (natI l).set q (x : Int) = natI (l.set q x) := by simp [natI, List.map_set]
def nxtR (s : List UInt8) : List Int := if trnOk s = true then natI (nxtL s) else []
theorem nxtR_no {s : List UInt8} (h : trnOk s = false) : nxtR s = [] := if_neg (by rw [h]; decide)
theorem nxtR_yes {s : List UInt8} (h : trnOk s = true) : nxtR s = natI (nxtL s) := if_pos h
theorem nxtR_len (s : List UInt8) : (nxtR s).length ≤ 120 := by
  unfold nxtR; split
  · rename_i h
    rw [natI_len, nxtL_len]
    simpa [trnOk] using h
  · simp
theorem TurnIn.mono {a b : Nat} {w w' : World} (t : TurnIn 0 0 w w') : TurnIn a b w w' := ⟨t.os, t.tape, t.output, t.size, fun k hk _ => t.block k hk (by omega)⟩
theorem setCells_one (w : World) (b o : Nat) (v : Value) : w.setCells b o [v] = w.setCell ⟨b, o, none⟩ v := rfl
end G294
namespace Go.Proofs.Ytbfchebnooanjaa
open Go.RowKit G294

set_option maxRecDepth 100000 in
set_option maxHeartbeats 4000000 in
theorem nextOf_own (s : List UInt8) (w : World) (hs : s.length ≤ 1000000000000) : Calls Try.prog 23 #[.string (str s)] w (RetIntsOk 3 w (nxtR s) (trnOk s)) := by
  obtain ⟨i0, hi0, hz0, hz1, hz2⟩ := info_parts infoInt
  have hsz : (str s).size = s.length := str_size s
  have HG := Lib.hid (fun W => goodTurnText_any s W hs)
  by_cases h : trnOk s = true
  · have HO := Lib.hid h
    have HR := Lib.hid (nxtR_yes h)
    have hn : s.length ≤ 120 := by simpa [trnOk] using h
    have HRI := Lib.hid (fun g W => roomsIn_own s g s.length W hn (Nat.le_refl _))
    have HF0 := Lib.hid (filN_zero s)
    have HFA := Lib.hid (filN_all s)
    have HFL := Lib.hid (fun i (hi : i ≤ s.length) => filN_len (s := s) hi)
    have HFS := Lib.hid (fun i (hi : i < s.length) => filN_step (s := s) hi)
    have HPL := Lib.hid (fun i (hi : i < s.length) => posN_lt (s := s) hi)
    have HRS := Lib.hid (fun g i => roomsL_step g s i)
    have HBL := Lib.hid (byN_lt s)
    have HBD : Hid (∀ i, byN s i = (s.getD i 0).toNat) := fun _ => rfl
    have HSG := Lib.hid (fun k h => str_get s k h)
    have HRV : Hid (∀ g i b, roomV g s i b = .slice (some ⟨g, offN s b, none⟩) (posN s i b).length (cntB s b)) := fun _ _ _ => rfl
    have HOF := Lib.hid (fun b (hb : 0 < cntB s b) => offN_yes (s := s) hb)
    have HPY := Lib.hid (fun i => posN_yes (s := s) (i := i) (b := byN s i) rfl)
    rw [HO.out] at HG
    rw [HR.out, HO.out]
    clear h
    generalize hnn : s.length = n at *
    clear hnn
    go_enter Try.func23, Try.ntmps23
    go_wp2_with fail
    refine (HG.out _).mono ?_
    rintro e w' ⟨rfl, rfl⟩
    go_wp2_with (at_make; refine wpList_make_full _ rfl _ _ _ rfl w.heap.size _ i0 _ 1 Try.underlying28 hi0 hz0 hz1 _ _ _ _ n rfl rfl rfl rfl ?b2 ?b3 ?b4 ?_)
    case b2 => rw [hz2]; omega
    case b3 => unfold maxLen; omega
    case b4 => exact Nat.le_refl _
    intro w1 hown1 hg1
    have HB1 := Lib.hid (TurnIn.of_grown (lo := 0) (hi := 0) hg1 (fun g h => by simp at h))
    rw [toList_madeCells_one] at hown1
    have hBlt := (hown1.lt w.heap.size rfl).2
    have HF : Hid (OwnInts 3 w1 w.heap.size (w.heap.size + 1) (.slice (some ⟨w.heap.size, 0, none⟩) n n) (natI (filN s 0))) := by
      refine ⟨?_, by omega, fun g hg => ?_⟩
      · rw [HF0.out]
        have e : ints (natI (List.replicate n 0)) = List.replicate n (.int .i64 0) := by simp [ints, natI]
        rw [e, natI_len, List.length_replicate]
        exact hown1
      · have e : w.heap.size = g := by simpa [Value.ownBlock] using hg
        omega
    clear hg1 hown1
    generalize hB : w.heap.size = B at *
    have HBE := Lib.hid hB
    clear hB
    go_wp2_with fail
    refine (HRI.out B _).mono ?_
    rintro e w2 ⟨rfl, k2⟩
    have HF2 := Lib.hid (HF.out.keep k2 (by omega))
    have HT2 := Lib.hid (turn_trans HB1.out k2 (by omega))
    have hw2 := k2.size
    clear k2 HF HB1
    go_wp2_with (refine wpList_alloc_arv rfl 62 rfl _ zeroRooms ?_)
    intro W3 hW3
    replace hW3 := hW3.out
    have t3 := hW3 ▸ turn_alloc w2 (.cells (List.replicate 256 (Value.slice none 0 0)).toArray 62)
    have r3 := hW3 ▸ ArrW.new w2 62 (List.replicate 256 (Value.slice none 0 0))
    have z3 := hW3 ▸ World.size_alloc w2 (.cells (List.replicate 256 (Value.slice none 0 0)).toArray 62)
    clear hW3
    generalize hR : w2.heap.size = R at *
    have HRB : B < R := by omega
    clear hR
    go_wp2_with (refine wpList_store_arv rfl 62 _ _ rfl R 256 _ _ (roomsL B s 0) rfl rfl r3 sizeRooms (by simp) (roomsL_len B s 0) (slices_one (fun u hu => laid_one B s 256 u (by rw [laidL_all]; exact hu))) ?_)
    intro W4 hW4
    replace hW4 := hW4.out
    have R4 := Lib.hid (hW4 ▸ r3.row (roomsL B s 0))
    have t4 := hW4 ▸ turn_rowV W3 R (roomsL B s 0).toArray
    have HF4 := Lib.hid ((HF2.out.keep t3 (by omega)).keep t4 (by omega))
    have HT4 := Lib.hid (turn_trans (turn_trans HT2.out t3 (by omega)) t4 (by have := HBE.out; omega))
    clear hW4 t3 t4 r3 z3 HF2 HT2
    go_wp2_with fail
    go_loopw [18] (fun x wr => ∃ i : Nat, i ≤ n ∧ x = .int .i64 i ∧ Hid (OwnInts 3 wr B (B + 1) (.slice (some ⟨B, 0, none⟩) n n) (natI (filN s i))) ∧ Hid (ArrW wr R 62 (roomsL B s i)) ∧ Hid (TurnIn 0 0 w wr)) (fun x _ => n - (intOf x).toNat)
    case atStart => exact ⟨0, Nat.zero_le _, rfl, HF4, R4, HT4⟩
    case round =>
      clear HF4 R4 HT4
      obtain ⟨i, hi, rfl, HF, HA, HT⟩ := hrel
      by_cases hlt : i < n
      · have hki : (i : Int) < (n : Int) := by omega
        have hpl := HPL.out i hlt
        obtain ⟨hfs1, hfs2⟩ := HFS.out i hlt
        have HFS2 := Lib.hid hfs2
        have g1 := HSG.out i (by omega)
        have hbl := HBL.out i
        have HBD2 := Lib.hid (HBD.out i)
        have hoff := HOF.out (byN s i) (by omega)
        have HRS2 := Lib.hid (HRS.out B i)
        have HV0 := Lib.hid (HRV.out B i (byN s i))
        have HV1 := Lib.hid (HRV.out B (i + 1) (byN s i))
        rw [HPY.out i, List.length_append, List.length_singleton] at HV1
        have c1 := HA.out.cell (roomsL_get B s i hbl)
        have hfl := HFL.out i (by omega)
        have hOn := HF.out.1
        rw [natI_len, hfl] at hOn
        have HSP : Hid (∃ u, wr.cell? ⟨B, fstN s (byN s i) + (posN s i (byN s i)).length, none⟩ = some u) := ⟨_, by
          have := hOn.cellAt (fstN s (byN s i) + (posN s i (byN s i)).length) (by omega)
          rw [this]
          exact List.getElem?_eq_getElem (by rw [ints_length, natI_len, hfl]; omega)⟩
        have HFZ := Lib.hid (hOn.frozenAt (fstN s (byN s i) + (posN s i (byN s i)).length))
        have HSTO := Lib.hid (HF.out.storeI (q := fstN s (byN s i) + (posN s i (byN s i)).length) (x := (i : Int)) (by rw [natI_len, hfl]) (by rw [natI_set, hfs2]))
        have HAF := Lib.hid (HA.out.frozen (byN s i))
        have hRlt := HA.out.lt
        rw [hoff] at HV0 HV1
        rw [HV0.out] at c1
        clear hfs2 hoff hOn
        generalize hc : s.getD i 0 = c at *
        obtain ⟨cN, hcN⟩ : ∃ cN, byN s i = cN := ⟨_, rfl⟩
        rw [hcN] at hpl hfs1 hbl HBD2 HRS2 HV1 c1 HSP HFZ HSTO HAF
        have hcc : ((c.toNat : Nat) : Int) = (cN : Int) := by rw [HBD2.out]
        obtain ⟨f, hf⟩ : ∃ f, fstN s cN = f := ⟨_, rfl⟩
        obtain ⟨r, hr⟩ : ∃ r, (posN s i cN).length = r := ⟨_, rfl⟩
        obtain ⟨q, hq⟩ : ∃ q, cntB s cN = q := ⟨_, rfl⟩
        rw [hf, hr, hq] at HV1 c1
        rw [hr, hq] at hpl
        rw [hf, hr] at hfs1 HSP HFZ HSTO
        clear hf hr hq hcN HV0 HRV HOF HPY HBD2 hfl
        have KA : TurnIn 0 0 wr (wr.alloc (.cells #[.int .i64 (i : Int)] 3)).drew := TurnIn.of_below (((Below.refl _ _).alloc (Nat.le_refl _) _).drew)
        have hBwr : B < wr.heap.size := by omega
        have HCC : Hid (∀ j u, [Value.int .i64 (i : Int)][j]? = some u → (wr.alloc (.cells #[.int .i64 (i : Int)] 3)).drew.cell? ((⟨wr.heap.size, 0, none⟩ : Addr).add j) = some u) := fun j u hj => by
          match j, hj with
          | 0, hj =>
            simp only [List.getElem?_cons_zero, Option.some.injEq] at hj
            subst hj
            simp [Addr.add]
        have HSPA : Hid (∀ j, j < [Value.int .i64 (i : Int)].length → ((wr.alloc (.cells #[.int .i64 (i : Int)] 3)).drew.cell? ⟨B, f + r * 1 + j, none⟩).isSome = true ∧ (wr.alloc (.cells #[.int .i64 (i : Int)] 3)).drew.frozen? ⟨B, f + r * 1 + j, none⟩ = false) := fun j hj => by
          have hj0 : j = 0 := by simpa using hj
          subst hj0
          rw [Nat.mul_one, Nat.add_zero, World.cell?_of_block (KA.block B hBwr (by omega)), World.frozen?_of_block (KA.block B hBwr (by omega))]
          obtain ⟨u, hu⟩ := HSP.out
          exact ⟨by rw [hu]; rfl, HFZ.out⟩
        have KS : TurnIn B (B + 1) wr ((wr.alloc (.cells #[.int .i64 (i : Int)] 3)).drew.setCell ⟨B, f + r, none⟩ (.int .i64 (i : Int))) := turn_trans (TurnIn.mono KA) (turn_setF _ _ _ _) (by omega)
        have HR1 : Hid (((wr.alloc (.cells #[.int .i64 (i : Int)] 3)).drew.setCell ⟨B, f + r, none⟩ (.int .i64 (i : Int))).cell? ⟨R, cN, none⟩ = some (.slice (some ⟨B, f, none⟩) r q)) := (World.cell?_of_block (KS.block R hRlt (by omega))).trans c1
        have HR2 : Hid (((wr.alloc (.cells #[.int .i64 (i : Int)] 3)).drew.setCell ⟨B, f + r, none⟩ (.int .i64 (i : Int))).frozen? ⟨R, cN, none⟩ = false) := (World.frozen?_of_block (KS.block R hRlt (by omega))).trans HAF.out
        have faf : wr.frozen? ⟨R, cN, none⟩ = false := HAF.out
        have KW1 := turn_setF wr B (f + r) (.int .i64 (i : Int))
        have KW2 := turn_setF (wr.setCell ⟨B, f + r, none⟩ (.int .i64 (i : Int))) R cN (.slice (some ⟨B, f, none⟩) (r + 1) q)
        have KW3 : TurnIn 0 0 ((wr.setCell ⟨B, f + r, none⟩ (.int .i64 (i : Int))).setCell ⟨R, cN, none⟩ (.slice (some ⟨B, f, none⟩) (r + 1) q)) (((wr.setCell ⟨B, f + r, none⟩ (.int .i64 (i : Int))).setCell ⟨R, cN, none⟩ (.slice (some ⟨B, f, none⟩) (r + 1) q)).alloc (.cells #[.int .i64 (i : Int)] 3)).drew := TurnIn.of_below (((Below.refl _ _).alloc (Nat.le_refl _) _).drew)
        have HO5 := Lib.hid ((HSTO.out.keep KW2 (by omega)).keep KW3 (by omega))
        have HA5 := ((HA.out.keep KW1 (by omega)).set cN (.slice (some ⟨B, f, none⟩) (r + 1) q)).keep KW3 (by omega)
        rw [← HV1.out, HRS2.out, HV1.out] at HA5
        have HA6 := Lib.hid HA5
        have HT5 := Lib.hid (turn_trans (turn_trans (turn_trans HT.out KW1 (by have := HBE.out; omega)) KW2 (by have := HBE.out; omega)) KW3 (by omega))
        clear KA KS KW1 KW2 KW3 HA5 HA HT HF HSTO
        have hci : (cN : Int) < 256 := by omega
        go_wp2_with fail
        go_region_law ((refine step_append_room (by rfl) _ _ _ (by rfl) 3 i0 1 Try.underlying28 hi0 hz1 B f r q (by rfl) ⟨wr.heap.size, 0, none⟩ 1 1 [.int .i64 (i : Int)] (by rfl) (by rfl) HCC.out (by intro u hu; simp only [List.mem_singleton] at hu; subst hu; rfl) (by omega) HSPA.out ?_; rw [Nat.mul_one, setCells_one]; have d1 := HR1.out; have d2 := HR2.out))
        all_goals
          go_wp2_with fail
          go_roundw
          case rel => exact ⟨i + 1, by omega, by go_num, HO5, HA6, HT5⟩
          case measure => simp [intOf]; omega
      · obtain rfl : i = n := by omega
        have hki : ¬ (i : Int) < (i : Int) := by omega
        have HFin : Hid (OwnInts 3 wr w.heap.size wr.heap.size (.slice (some ⟨B, 0, none⟩) i i) (natI (nxtL s))) := by
          have := HF.out.widen
          rw [HFA.out] at this
          rw [HBE.out]; exact this
        go_wp2_with fail
        go_ret2
        exact ⟨_, rfl, HFin.out, HT.out⟩
  · have HO : Hid (trnOk s = false) := by show trnOk s = false; simpa using h
    have HR := Lib.hid (nxtR_no HO.out)
    rw [HO.out] at HG
    rw [HR.out, HO.out]
    clear h
    go_enter Try.func23, Try.ntmps23
    go_wp2_with fail
    refine (HG.out _).mono ?_
    rintro e w' ⟨rfl, rfl⟩
    go_wp2_with fail
    go_ret2
    exact ⟨_, rfl, OwnInts.nil _ _ _, TurnIn.refl _⟩
end Go.Proofs.Ytbfchebnooanjaa

/- Chapter 11: Restore, the program's. -/
namespace G294
open Go Go.RowKit
/-- the index after k steps -/
def folN (s : List UInt8) (a : Nat) : Nat → Nat
  | 0 => a
  | k + 1 => (nxtL s).getD (folN s a k) 0
theorem folN_succ (s : List UInt8) (a k : Nat) : folN s a (k + 1) = (nxtL s).getD (folN s a k) 0 := rfl
theorem posN_mem {s : List UInt8} {i b x : Nat} : x ∈ posN s i b ↔ x < i ∧ byN s x = b := by
  simp [posN, List.mem_filter]
theorem nxtL_mem {s : List UInt8} {x : Nat} : x ∈ nxtL s ↔ x < s.length := by
  simp only [nxtL, List.mem_flatMap, List.mem_range, posN_mem]
  constructor
  · rintro ⟨_, _, h, _⟩; exact h
  · intro h; exact ⟨byN s x, byN_lt s x, h, rfl⟩
theorem nxtL_lt {s : List UInt8} {k : Nat} (h : k < s.length) : (nxtL s).getD k 0 < s.length := by
  rw [getD_len (by rw [nxtL_len]; exact h)]
  exact nxtL_mem.1 (List.getElem_mem _)
theorem folN_lt {s : List UInt8} {a : Nat} (h : a < s.length) : ∀ k, folN s a k < s.length
  | 0 => h
  | k + 1 => nxtL_lt (folN_lt h k)
/-- the first k bytes that are read so -/
def rsN (s : List UInt8) (a k : Nat) : List UInt8 := (List.range k).map fun j => s.getD (folN s a (j + 1)) 0
theorem rsN_len (s : List UInt8) (a k : Nat) : (rsN s a k).length = k := by simp [rsN]
theorem rsN_succ (s : List UInt8) (a k : Nat) : rsN s a (k + 1) = rsN s a k ++ [s.getD (folN s a (k + 1)) 0] := by simp [rsN, List.range_succ]
def rstB (s : List UInt8) (a : Nat) : Bool := decide (lastL (rsN s a s.length) = s ∧ at0 (trn (rsN s a s.length)) s.length = a)
def rstOk (s : List UInt8) (k : Int) : Bool := rtOk s k && rstB s k.toNat
def rstR (s : List UInt8) (k : Int) : List UInt8 := if rstOk s k = true then rsN s k.toNat s.length else []
theorem rstR_no {s : List UInt8} {k : Int} (h : rstOk s k = false) : rstR s k = [] := if_neg (by rw [h]; decide)
theorem rstR_yes {s : List UInt8} {a : Nat} (h : rstOk s a = true) : rstR s a = rsN s a s.length := by unfold rstR; rw [if_pos h]; simp
theorem rstOk_a {s : List UInt8} {k : Int} (h : rtOk s k = false) : rstOk s k = false := by simp [rstOk, h]
theorem rstOk_b {s : List UInt8} {a : Nat} (h : rtOk s a = true) : rstOk s a = rstB s a := by simp [rstOk, h]
theorem rsN_trf {s : List UInt8} (a : Nat) (h : s.length ≤ 120) : trnOk (rsN s a s.length) = true ∧ trfR (rsN s a s.length) = lastL (rsN s a s.length) ∧ trfX (rsN s a s.length) = (at0 (trn (rsN s a s.length)) s.length : Nat) := by
  have h1 : trnOk (rsN s a s.length) = true := by simpa [trnOk, rsN_len] using h
  exact ⟨h1, trfR_yes h1, by rw [trfX_yes h1, rsN_len]⟩
end G294
namespace Go.Proofs.Ytbfchebnooanjaa
open Go.RowKit G294

set_option maxRecDepth 100000 in
set_option maxHeartbeats 4000000 in
theorem restore_own (s : List UInt8) (k : Int) (w : World) (hs : s.length ≤ 1000000000000) : Calls Try.prog 16 #[.string (str s), .int .i64 k] w (RetStrOk w (rstR s k) (rstOk s k)) := by
  obtain ⟨i0, hi0, hz0, hz1, hz2⟩ := info_parts infoByte
  have hsz : (str s).size = s.length := str_size s
  have HNX := Lib.hid (nextOf_own s w hs)
  have HGT := Lib.hid (fun W => goodTurn_any k s W hs)
  by_cases h : rtOk s k = true
  · obtain ⟨hn, a, rfl, ha, hal⟩ := rtOk_b h
    have HO1 : Hid (trnOk s = true) := by show _ = _; simp [trnOk, hn]
    have HO2 : Hid ((decide (0 ≤ (a : Int)) && decide ((a : Int) < max (s.length : Int) 1)) = true) := by
      simp only [rtOk, Bool.and_eq_true] at h
      show _ = _
      simp only [Bool.and_eq_true]; exact h.2
    have HNR := Lib.hid (nxtR_yes HO1.out)
    have HNL : Hid ((natI (nxtL s)).length = s.length) := by show _ = _; rw [natI_len, nxtL_len]
    have HNG : Hid (∀ k, k < s.length → (natI (nxtL s))[k]? = some (((nxtL s).getD k 0 : Nat) : Int)) := fun k hk => natI_get (nxtL s) k (by rw [nxtL_len]; exact hk)
    have HFS := Lib.hid (folN_succ s a)
    have HFL : Hid (0 < s.length → ∀ k, folN s a k < s.length) := fun h k => folN_lt (by omega) k
    have HRN := Lib.hid (rsN_len s a)
    have HRS := Lib.hid (rsN_succ s a)
    have HR0 : Hid (rsN s a 0 = []) := rfl
    have HF0 : Hid (folN s a 0 = a) := rfl
    have HSG := Lib.hid (fun k h => str_get s k h)
    obtain ⟨hq1, hq2, hq3⟩ := rsN_trf a hn
    have HTF := Lib.hid (fun W => transform_own (rsN s a s.length) W (by rw [rsN_len]; omega))
    rw [hq1, hq2, hq3] at HTF
    have HOB := Lib.hid (rstOk_b h)
    have HRY := Lib.hid (rstR_yes (s := s) (a := a))
    have HRNo := Lib.hid (rstR_no (s := s) (k := (a : Int)))
    have HB : Hid (rstB s a = decide (lastL (rsN s a s.length) = s ∧ at0 (trn (rsN s a s.length)) s.length = a)) := rfl
    have hL := at0_le (trn (rsN s a s.length)) s.length
    rw [HO2.out] at HGT
    rw [HO1.out, HNR.out] at HNX
    clear h hal hq1 hq2 hq3
    generalize lastL (rsN s a s.length) = L at *
    generalize at0 (trn (rsN s a s.length)) s.length = X at *
    generalize nxtL s = T at *
    generalize hnn : s.length = n at *
    clear hnn
    go_enter Try.func16, Try.ntmps16
    go_wp2_with fail
    refine HNX.out.mono ?_
    rintro e w1 ⟨v, rfl, hO, hT⟩
    have HOT := Lib.hid hO
    have HTU := Lib.hid hT
    obtain ⟨A, c, hv⟩ := hO.seen.len
    rw [ints_length, HNL.out] at hv
    subst hv
    clear hO hT HNX
    go_wp2_with fail
    refine (HGT.out _).mono ?_
    rintro e w' ⟨rfl, rfl⟩
    go_wp2_with (at_make; refine wpList_make_full _ rfl _ _ _ rfl w1.heap.size _ i0 _ 1 Try.underlying22 hi0 hz0 hz1 _ _ _ _ n rfl rfl rfl rfl ?b2 ?b3 ?b4 ?_)
    case b2 => rw [hz2]; omega
    case b3 => unfold maxLen; omega
    case b4 => exact Nat.le_refl _
    intro w2 hown1 hg1
    have hb1 : TurnIn 0 0 w1 w2 := TurnIn.of_grown (lo := 0) (hi := 0) hg1 (fun g h => by simp at h)
    rw [toList_madeCells_one] at hown1
    have hBlt := (hown1.lt w1.heap.size rfl).2
    have HB0 : Hid (OwnBytes 5 w2 w1.heap.size (w1.heap.size + 1) (.slice (some ⟨w1.heap.size, 0, none⟩) n n) (rsN s a 0 ++ List.replicate (n - 0) 0)) := by
      refine ⟨?_, by omega, fun g hg => ?_⟩
      · have e : bys (rsN s a 0 ++ List.replicate (n - 0) 0) = List.replicate n (.int .u8 0) := by rw [HR0.out]; simp [bys]
        rw [e, HR0.out]
        simpa using hown1
      · have e : w1.heap.size = g := by simpa [Value.ownBlock] using hg
        omega
    have HOT2 := Lib.hid (HOT.out.keep hb1 (by omega))
    have HTU2 := Lib.hid (turn_trans HTU.out hb1 (by omega))
    have hw1 := HTU.out.size
    clear hg1 hown1 HOT HTU hb1
    generalize w1.heap.size = B at *
    go_wp2_with fail
    go_loopw [9, 33] (fun x y wr => ∃ k : Nat, k ≤ n ∧ y = .int .i64 k ∧ x = .int .i64 (folN s a k : Nat) ∧ Hid (OwnBytes 5 wr B (B + 1) (.slice (some ⟨B, 0, none⟩) n n) (rsN s a k ++ List.replicate (n - k) 0)) ∧ Hid (TurnIn B (B + 1) w2 wr)) (fun _ y _ => n - (intOf y).toNat)
    case atStart => exact ⟨0, Nat.zero_le _, rfl, by rw [HF0.out], HB0, Lib.hid ⟨rfl, rfl, rfl, Nat.le_refl _, fun _ _ _ => rfl⟩⟩
    case round =>
      clear HB0
      obtain ⟨k, hk, rfl, rfl, HBr, HK⟩ := hrel
      by_cases hlt : k < n
      · have hki : (k : Int) < (n : Int) := by omega
        have hfl := HFL.out (by omega) k
        have hfl2 := HFL.out (by omega) (k + 1)
        have HFS2 := Lib.hid (HFS.out k)
        have HRS2 := Lib.hid (HRS.out k)
        have HLK := Lib.hid (HRN.out k)
        have HOT3 := HOT2.out.keep HK.out (by omega)
        obtain ⟨A', c', e, _, _, h3⟩ := HOT3.seen
        rw [ints_length, HNL.out] at e h3
        simp only [Value.slice.injEq] at e
        obtain ⟨rfl, he, rfl⟩ := e
        clear he
        obtain ⟨b, o, rfl, hbb, hcc⟩ := h3 (by omega)
        have c1 : wr.cell? ⟨b, o + folN s a k, none⟩ = some (.int .i64 ((folN s a (k + 1) : Nat) : Int)) := by
          rw [HFS2.out]
          refine hcc (folN s a k) _ ?_
          simp only [ints, List.getElem?_map, HNG.out (folN s a k) hfl, Option.map_some]
        have hqs : folN s a (k + 1) < (str s).size := by rw [hsz]; exact hfl2
        have g1 := HSG.out (folN s a (k + 1)) hqs
        generalize hqq : folN s a (k + 1) = q at *
        have HQ := Lib.hid hqq
        clear hqq
        generalize folN s a k = p at *
        generalize s.getD q 0 = y at *
        have hOn := HBr.out.1
        rw [List.length_append, HLK.out, List.length_replicate, show k + (n - k) = n by omega] at hOn
        have hcb := hOn.cellAt k (by omega)
        have hfz := hOn.frozenAt k
        rw [show (bys (rsN s a k ++ List.replicate (n - k) 0))[k]? = some (.int .u8 0) by
          simp only [bys, List.getElem?_map, fill_at HLK.out hlt]; rfl] at hcb
        have HST := Lib.hid (HBr.out.store (q := k) (x := y) (by rw [List.length_append, HLK.out, List.length_replicate]; omega) (fill_set y HLK.out hlt))
        rw [← HRS2.out] at HST
        have HKS := Lib.hid (turn_trans HK.out (turn_setR wr B k (.int .u8 (y.toNat : Int))) (by omega))
        clear HBr HK HOT3 h3 hcc HRS2 hOn HFS2
        go_wp2_with fail
        go_roundw
        case rel => exact ⟨k + 1, by omega, by go_num, by rw [HQ.out], HST, HKS⟩
        case measure => simp [intOf]; omega
      · obtain rfl : k = n := by omega
        have hki : ¬ (k : Int) < (k : Int) := by omega
        have hseen : Seen wr (.slice (some ⟨B, 0, none⟩) k k) (bys (rsN s a k)) := by
          have := HBr.out.seen
          rw [Nat.sub_self, List.replicate_zero, List.append_nil] at this
          exact this
        have hconv := run_string_seen (P := Try.prog) 22 5 9 Try.underlying22 Try.underlying5 Try.underlying9 hseen
        have HTF2 := Lib.hid (turn_trans HTU2.out HK.out (by omega))
        have HBK := HBr
        have hwb := HBr.out.2.1
        have HSE := Lib.hid hseen
        clear HBr hseen
        go_wp2_with fail
        refine (HTF.out _).mono ?_
        rintro e w5 ⟨rfl, k5⟩
        have HFin := Lib.hid (turn_trans HTF2.out k5 (by omega))
        have hconv2 := run_string_seen (P := Try.prog) 22 5 9 Try.underlying22 Try.underlying5 Try.underlying9 (HSE.out.touch k5)
        clear k5 hconv
        by_cases hL1 : L = s
        · have hLb : ((str L).toList == (str s).toList) = true := by rw [hL1]; simp
          have hLn : (!((str L).toList == (str s).toList)) = false := by rw [hLb]; rfl
          by_cases hX1 : X = a
          · have hXb : ((X : Int) != (a : Int)) = false := by rw [hX1]; simp
            have hok : rstOk s (a : Int) = true := by rw [HOB.out, HB.out]; simp [hL1, hX1]
            have HRY2 := Lib.hid (HRY.out hok)
            have HOK := Lib.hid hok
            clear hL1 hX1 hok
            go_wp2_with fail
            go_ret2
            exact ⟨by rw [HRY2.out, HOK.out]; rfl, HFin.out⟩
          · have hXb : ((X : Int) != (a : Int)) = true := by rw [bne_iff_ne]; omega
            have hok : rstOk s (a : Int) = false := by rw [HOB.out, HB.out]; simp [hX1]
            have HRY2 := Lib.hid (HRNo.out hok)
            have HOK := Lib.hid hok
            clear hL1 hX1 hok
            go_wp2_with fail
            go_ret2
            exact ⟨by rw [HRY2.out, HOK.out]; rfl, HFin.out⟩
        · have hLb : ((str L).toList == (str s).toList) = false := by rw [str_toList, str_toList]; simpa using hL1
          have hLn : (!((str L).toList == (str s).toList)) = true := by rw [hLb]; rfl
          have hok : rstOk s (a : Int) = false := by rw [HOB.out, HB.out]; simp [hL1]
          have HRY2 := Lib.hid (HRNo.out hok)
          have HOK := Lib.hid hok
          clear hL1 hok
          go_wp2_with fail
          go_ret2
          exact ⟨by rw [HRY2.out, HOK.out]; rfl, HFin.out⟩
  · have HO : Hid (rtOk s k = false) := by show rtOk s k = false; simpa using h
    have HOK := Lib.hid (rstOk_a HO.out)
    have HR := Lib.hid (rstR_no HOK.out)
    rw [HR.out, HOK.out]
    by_cases h1 : trnOk s = true
    · have HO2 : Hid ((decide (0 ≤ k) && decide (k < max (s.length : Int) 1)) = false) := by
        have := HO.out
        simp only [rtOk, h1, Bool.true_and] at this
        exact this
      have hn : s.length ≤ 120 := by simpa [trnOk] using h1
      have HNL : Hid ((nxtR s).length = s.length) := by show _ = _; rw [nxtR_yes h1, natI_len, nxtL_len]
      rw [h1] at HNX
      rw [HO2.out] at HGT
      clear h h1
      generalize nxtR s = T at *
      go_enter Try.func16, Try.ntmps16
      go_wp2_with fail
      refine HNX.out.mono ?_
      rintro e w1 ⟨v, rfl, hO, hT⟩
      have HTU := Lib.hid hT
      clear hO hT HNX
      go_wp2_with fail
      refine (HGT.out _).mono ?_
      rintro e w' ⟨rfl, rfl⟩
      go_wp2_with fail
      go_ret2
      exact ⟨rfl, HTU.out⟩
    · rw [show trnOk s = false by simpa using h1] at HNX
      clear h h1
      generalize nxtR s = T at *
      go_enter Try.func16, Try.ntmps16
      go_wp2_with fail
      refine HNX.out.mono ?_
      rintro e w1 ⟨v, rfl, hO, hT⟩
      have HTU := Lib.hid hT
      clear hO hT HNX
      go_wp2_with fail
      go_ret2
      exact ⟨rfl, HTU.out⟩
end Go.Proofs.Ytbfchebnooanjaa

/- Chapter 11: a text comes back from its last column; a rotation has the same one (Burrows and Wheeler; mathematics). -/
namespace G294
open Go Go.RowKit
theorem ext_getD {a b : List UInt8} (hl : a.length = b.length) (h : ∀ j, j < a.length → a.getD j 0 = b.getD j 0) : a = b := by
  apply List.ext_getElem hl
  intro j h1 h2
  have := h j h1
  rwa [getD_len h1, getD_len h2] at this
theorem rot_get {s : List UInt8} {k j : Nat} (hk : k < s.length) (hj : j < s.length) : (rotL s k).getD j 0 = s.getD ((k + j) % s.length) 0 := by
  unfold rotL
  rw [List.getD_eq_getElem?_getD, List.getD_eq_getElem?_getD]
  congr 1
  by_cases h : k + j < s.length
  · rw [List.getElem?_append_left (by rw [List.length_drop]; omega), List.getElem?_drop, Nat.mod_eq_of_lt h]
  · rw [List.getElem?_append_right (by rw [List.length_drop]; omega), List.length_drop, List.getElem?_take, if_pos (by omega)]
    congr 1
    rw [Nat.mod_eq_sub_mod (by omega), Nat.mod_eq_of_lt (by omega)]; omega
/-- the last element comes to the front -/
def rr (t : List UInt8) : List UInt8 := t.getD (t.length - 1) 0 :: t.take (t.length - 1)
theorem rr_len {t : List UInt8} (h : 0 < t.length) : (rr t).length = t.length := by simp [rr]; omega
theorem rr_zero (t : List UInt8) : (rr t).getD 0 0 = t.getD (t.length - 1) 0 := rfl
theorem rr_succ {t : List UInt8} {j : Nat} (h : j + 1 < t.length) : (rr t).getD (j + 1) 0 = t.getD j 0 := by
  unfold rr
  rw [List.getD_cons_succ, List.getD_eq_getElem?_getD, List.getD_eq_getElem?_getD, List.getElem?_take, if_pos (by omega)]
theorem rr_inj {a b : List UInt8} (h0 : 0 < a.length) (hl : a.length = b.length) (h : rr a = rr b) : a = b := by
  refine ext_getD hl fun j hj => ?_
  by_cases e : j = a.length - 1
  · subst e
    have : (rr a).getD 0 0 = (rr b).getD 0 0 := by rw [h]
    rw [rr_zero, rr_zero] at this
    rw [this, hl]
  · have : (rr a).getD (j + 1) 0 = (rr b).getD (j + 1) 0 := by rw [h]
    rwa [rr_succ (by omega), rr_succ (by omega)] at this
theorem back_mod {k n : Nat} (h : k < n) : (k + n - 1) % n = if k = 0 then n - 1 else k - 1 := by
  split
  · subst_vars; rw [Nat.zero_add, Nat.mod_eq_of_lt (by omega)]
  · rw [Nat.mod_eq_sub_mod (by omega), Nat.mod_eq_of_lt (by omega)]; omega
theorem rr_rot {s : List UInt8} {k : Nat} (h : k < s.length) : rr (rotL s k) = rotL s ((k + s.length - 1) % s.length) := by
  have hm : (k + s.length - 1) % s.length < s.length := Nat.mod_lt _ (by omega)
  have hl : (rotL s k).length = s.length := rotL_len s (by omega)
  refine ext_getD (by rw [rr_len (by omega), hl, rotL_len s (by omega)]) fun j hj => ?_
  rw [rr_len (by omega), hl] at hj
  rw [rot_get hm hj]
  cases j with
  | zero => rw [rr_zero, hl, rot_get h (by omega), Nat.add_zero, Nat.mod_mod]; congr 2; omega
  | succ j =>
    rw [rr_succ (by omega), rot_get h (by omega), back_mod h]
    congr 1
    split
    · subst_vars
      rw [Nat.zero_add, show s.length - 1 + (j + 1) = j + s.length by omega, Nat.add_mod_right]
    · congr 1; omega
theorem last_rot {s : List UInt8} {k : Nat} (h : k < s.length) : (rotL s k).getD (s.length - 1) 0 = lastAt s k := by
  rw [rot_get h (by omega)]
  unfold lastAt
  rw [show k + (s.length - 1) = k + s.length - 1 by omega]
/-- no later text is less than an earlier one -/
def leT (a b : List UInt8) : Prop := lessT b a = false
theorem leT_anti {a b : List UInt8} (h1 : leT a b) (h2 : leT b a) : a = b := lessT_tri h2 h1
theorem leT_only {l m : List (List UInt8)} (h1 : l.Pairwise leT) (h2 : m.Pairwise leT) (hp : l.Perm m) : l = m :=
  List.Perm.eq_of_pairwise (le := leT) (fun a b _ _ h3 h4 => leT_anti h3 h4) h1 h2 hp
theorem bef_le {s : List UInt8} {a b : Nat} (h : bef s a b) : leT (rotL s a) (rotL s b) := by
  rcases h with h | ⟨h, _⟩
  · cases hh : lessT (rotL s b) (rotL s a) with
    | false => exact hh
    | true => have := lessT_trans h hh; rw [lessT_irr] at this; cases this
  · show lessT _ _ = false
    rw [h]; exact lessT_irr _
/-- the sorted rotations -/
def rows (s : List UInt8) : List (List UInt8) := (trn s).map (rotL s)
theorem rows_sorted (s : List UInt8) : (rows s).Pairwise leT := List.pairwise_map.2 ((trnN_sorted s _).imp fun h => bef_le h)
theorem rows_perm (s : List UInt8) : (rows s).Perm ((List.range s.length).map (rotL s)) := (trnN_perm s _).map _
theorem map_getD (l : List Nat) : (List.range l.length).map (fun i => l.getD i 0) = l := by
  apply List.ext_getElem
  · simp
  · intro i h1 h2
    rw [List.getElem_map, List.getElem_range, getD_len h2]
theorem mod_perm {n c : Nat} (hn : 0 < n) : ((List.range n).map fun k => (k + c) % n).Perm (List.range n) := by
  have hinj : ((List.range n).map fun k => (k + c) % n).Nodup := by
    have h := List.pairwise_lt_range (n := n)
    rw [List.Nodup, List.pairwise_map]
    refine List.Pairwise.imp_of_mem (fun {a b} ha hb hab e => ?_) h
    rw [List.mem_range] at ha hb
    have e1 := Nat.div_add_mod (a + c) n
    have e2 := Nat.div_add_mod (b + c) n
    rw [e] at e1
    have h3 : n * ((b + c) / n) = n * ((a + c) / n) + (b - a) := by omega
    have h4 : (b + c) / n = (a + c) / n := by
      have h5 : n * ((b + c) / n) < n * ((a + c) / n + 1) := by rw [Nat.mul_add, Nat.mul_one]; omega
      have h6 := Nat.lt_of_mul_lt_mul_left h5
      have h7 : (a + c) / n ≤ (b + c) / n := Nat.div_le_div_right (by omega)
      omega
    rw [h4] at h3
    omega
  refine perm_of_sub hinj (fun x hx => ?_) (by simp)
  obtain ⟨k, _, rfl⟩ := List.mem_map.1 hx
  exact List.mem_range.2 (Nat.mod_lt _ hn)
theorem lastL_rows (s : List UInt8) : lastL s = (rows s).map fun t => t.getD (s.length - 1) 0 := by
  unfold lastL rows
  rw [List.map_map]
  apply List.map_congr_left
  intro k hk
  exact (last_rot (trnN_mem.1 hk)).symm
theorem lastL_len (s : List UInt8) : (lastL s).length = s.length := by simp [lastL, trn_len]
theorem lastL_get {s : List UInt8} {i : Nat} (h : i < s.length) : (lastL s).getD i 0 = lastAt s ((trn s).getD i 0) := by
  have hl := trn_len s
  simp [lastL, List.getD_eq_getElem?_getD, List.getElem?_eq_getElem, hl, h]
/-- A rotation of a text has the same last column. -/
theorem lastL_rot {s : List UInt8} {q : Nat} (hq : q < s.length) : lastL (rotL s q) = lastL s := by
  have hl : (rotL s q).length = s.length := rotL_len s (by omega)
  have hrr : ∀ k, k < s.length → rotL (rotL s q) k = rotL s ((k + q) % s.length) := fun k hk => by
    refine ext_getD (by rw [rotL_len _ (by omega), hl, rotL_len s (Nat.le_of_lt (Nat.mod_lt _ (by omega)))]) fun j hj => ?_
    rw [rotL_len _ (by omega), hl] at hj
    rw [rot_get (by omega) (by omega), hl, rot_get hq (Nat.mod_lt _ (by omega)), rot_get (Nat.mod_lt _ (by omega)) hj, Nat.add_mod_mod, Nat.mod_add_mod]
    congr 2; omega
  have hp : (rows (rotL s q)).Perm (rows s) := by
    refine (rows_perm _).trans (List.Perm.trans ?_ (rows_perm s).symm)
    rw [hl]
    have e : (List.range s.length).map (rotL (rotL s q)) = ((List.range s.length).map fun k => (k + q) % s.length).map (rotL s) := by
      rw [List.map_map]
      apply List.map_congr_left
      intro k hk
      exact hrr k (List.mem_range.1 hk)
    rw [e]
    exact (mod_perm (by omega)).map _
  rw [lastL_rows, lastL_rows, hl, leT_only (rows_sorted _) (rows_sorted s) hp]
/-- the order of a text's places: by byte, then by place -/
def byR (s : List UInt8) (i j : Nat) : Prop := byN s i < byN s j ∨ (byN s i = byN s j ∧ i < j)
theorem nxtL_sorted (s : List UInt8) : (nxtL s).Pairwise (byR s) := by
  have key : ∀ m, ((List.range m).flatMap (posN s s.length)).Pairwise (byR s) ∧ ∀ x ∈ (List.range m).flatMap (posN s s.length), byN s x < m := fun m => by
    induction m with
    | zero => exact ⟨List.Pairwise.nil, fun x hx => by cases hx⟩
    | succ m ih =>
      have e : (List.range (m + 1)).flatMap (posN s s.length) = (List.range m).flatMap (posN s s.length) ++ posN s s.length m := by simp [List.range_succ, List.flatMap_append]
      rw [e]
      refine ⟨List.pairwise_append.2 ⟨ih.1, ?_, fun a ha b hb => ?_⟩, fun x hx => ?_⟩
      · have h := (List.pairwise_lt_range (n := s.length)).filter (fun j => decide (byN s j = m))
        refine List.Pairwise.imp_of_mem (fun {a b} ha hb hab => ?_) h
        have h1 := (posN_mem.1 ha).2
        have h2 := (posN_mem.1 hb).2
        exact .inr ⟨h1.trans h2.symm, hab⟩
      · have h1 := ih.2 a ha
        have h2 := (posN_mem.1 hb).2
        exact .inl (by omega)
      · rcases List.mem_append.1 hx with h | h
        · have := ih.2 x h; omega
        · have := (posN_mem.1 h).2; omega
  exact (key 256).1
theorem nxtL_perm (s : List UInt8) : (nxtL s).Perm (List.range s.length) := by
  refine perm_of_sub ((nxtL_sorted s).imp fun {a b} h e => ?_) (fun x hx => List.mem_range.2 (nxtL_mem.1 hx)) (by rw [List.length_range, nxtL_len]; exact Nat.le_refl _)
  subst e
  rcases h with h | ⟨_, h⟩ <;> omega
theorem less_snoc : ∀ {a b : List UInt8} (x : UInt8), a.length = b.length → lessT (a ++ [x]) (b ++ [x]) = lessT a b
  | [], [], x, _ => by rw [List.nil_append, lessT_irr]; rfl
  | [], _ :: _, _, h => by simp at h
  | _ :: _, [], _, h => by simp at h
  | y :: a, z :: b, x, h => by
    have ih := @less_snoc a b x (by simpa using h)
    unfold lessT at ih ⊢
    simp only [List.cons_append, Op.bytesLess, ih]
theorem snoc_of {t : List UInt8} (h : 0 < t.length) : t = t.take (t.length - 1) ++ [t.getD (t.length - 1) 0] := by
  rw [← take_snocD t (by omega), show t.length - 1 + 1 = t.length by omega, List.take_length]
theorem rr_le {a b : List UInt8} (h0 : 0 < a.length) (hl : a.length = b.length) (h : (a.getD (a.length - 1) 0).toNat < (b.getD (b.length - 1) 0).toNat ∨ (a.getD (a.length - 1) 0 = b.getD (b.length - 1) 0 ∧ leT a b)) : leT (rr a) (rr b) := by
  unfold leT rr
  show Op.bytesLess _ _ = false
  rcases h with h | ⟨h1, h2⟩
  · have h3 : ¬ (b.getD (b.length - 1) 0) < (a.getD (a.length - 1) 0) := by rw [UInt8.lt_iff_toNat_lt]; omega
    have h4 : b.getD (b.length - 1) 0 ≠ a.getD (a.length - 1) 0 := fun e => by rw [e] at h; omega
    generalize a.getD (a.length - 1) 0 = x at *
    generalize b.getD (b.length - 1) 0 = y at *
    simp [Op.bytesLess, h3, h4]
  · have h3 : lessT (b.take (b.length - 1)) (a.take (a.length - 1)) = false := by
      have h4 := h2
      unfold leT at h4
      rw [snoc_of h0, snoc_of (show 0 < b.length by omega), ← h1, less_snoc _ (by simp; omega)] at h4
      exact h4
    unfold lessT at h3
    have h5 : ¬ (b.getD (b.length - 1) 0) < (a.getD (a.length - 1) 0) := by rw [h1, UInt8.lt_iff_toNat_lt]; omega
    generalize a.getD (a.length - 1) 0 = x at *
    generalize b.getD (b.length - 1) 0 = y at *
    simp [Op.bytesLess, h3, h5]
/-- the rotations, each with its last byte brought to the front, in the order of NextOf: the sorted rotations -/
theorem next_rows (s : List UInt8) : (nxtL (lastL s)).map (fun i => rr (rotL s ((trn s).getD i 0))) = rows s := by
  by_cases hn : 0 < s.length
  · have hl := lastL_len s
    have htl := trn_len s
    have hlt : ∀ i, i < s.length → (trn s).getD i 0 < s.length := fun i hi => trn_lt hi
    have hlast : ∀ i, i < s.length → (rotL s ((trn s).getD i 0)).getD ((rotL s ((trn s).getD i 0)).length - 1) 0 = (lastL s).getD i 0 := fun i hi => by
      rw [rotL_len s (Nat.le_of_lt (hlt i hi)), last_rot (hlt i hi), lastL_get hi]
    refine leT_only ?_ (rows_sorted s) ?_
    · rw [List.pairwise_map]
      refine List.Pairwise.imp_of_mem (fun {i j} hi hj h => ?_) (nxtL_sorted (lastL s))
      have hi' := nxtL_mem.1 hi
      have hj' := nxtL_mem.1 hj
      rw [hl] at hi' hj'
      refine rr_le (by rw [rotL_len s (Nat.le_of_lt (hlt i hi'))]; exact hn) (by rw [rotL_len s (Nat.le_of_lt (hlt i hi')), rotL_len s (Nat.le_of_lt (hlt j hj'))]) ?_
      rw [hlast i hi', hlast j hj']
      rcases h with h | ⟨h1, h2⟩
      · exact .inl h
      · refine .inr ⟨UInt8.toNat_inj.1 h1, bef_le ?_⟩
        have hs := trnN_sorted s s.length
        have h3 := List.pairwise_iff_getElem.1 hs i j (by rw [trnN_len]; exact hi') (by rw [trnN_len]; exact hj') h2
        have e1 : (trn s).getD i 0 = (trnN s s.length)[i]'(by rw [trnN_len]; exact hi') := getD_len _ _
        have e2 : (trn s).getD j 0 = (trnN s s.length)[j]'(by rw [trnN_len]; exact hj') := getD_len _ _
        rw [e1, e2]; exact h3
    · have hp : ((nxtL (lastL s)).map fun i => (trn s).getD i 0).Perm (trn s) := by
        have h1 := (nxtL_perm (lastL s)).map (fun i => (trn s).getD i 0)
        rw [hl, ← htl, map_getD] at h1
        exact h1
      have h2 := (hp.trans (trnN_perm s _)).map (fun k => rotL s ((k + s.length - 1) % s.length))
      rw [List.map_map] at h2
      have e1 : (nxtL (lastL s)).map (fun i => rr (rotL s ((trn s).getD i 0))) = (nxtL (lastL s)).map ((fun k => rotL s ((k + s.length - 1) % s.length)) ∘ fun i => (trn s).getD i 0) := by
        apply List.map_congr_left
        intro i hi
        have hi' := nxtL_mem.1 hi
        rw [hl] at hi'
        exact rr_rot (hlt i hi')
      rw [e1]
      refine h2.trans (List.Perm.trans ?_ (rows_perm s).symm)
      have e2 : (List.range s.length).map (fun k => rotL s ((k + s.length - 1) % s.length)) = ((List.range s.length).map fun k => (k + (s.length - 1)) % s.length).map (rotL s) := by
        rw [List.map_map]
        apply List.map_congr_left
        intro k _
        show _ = rotL s ((k + (s.length - 1)) % s.length)
        rw [show k + (s.length - 1) = k + s.length - 1 by omega]
      rw [e2]
      exact (mod_perm hn).map _
  · have e : s = [] := List.eq_nil_of_length_eq_zero (by omega)
    subst e
    have h1 : nxtL (lastL []) = [] := List.eq_nil_of_length_eq_zero (by rw [nxtL_len, lastL_len]; rfl)
    have h2 : trn [] = [] := List.eq_nil_of_length_eq_zero (by rw [trn_len]; rfl)
    rw [h1, rows, h2]; rfl
/-- one step along NextOf is one step along the text -/
theorem next_step {s : List UInt8} {p : Nat} (h : p < s.length) : rr (rotL s ((trn s).getD ((nxtL (lastL s)).getD p 0) 0)) = rotL s ((trn s).getD p 0) := by
  have h1 := congrArg (fun l => l[p]?) (next_rows s)
  have hl : p < (nxtL (lastL s)).length := by rw [nxtL_len, lastL_len]; exact h
  have ht : p < (trn s).length := by rw [trn_len]; exact h
  simp only [rows, List.getElem?_map, List.getElem?_eq_getElem hl, List.getElem?_eq_getElem ht, Option.map_some, Option.some.injEq] at h1
  rw [getD_len hl, getD_len ht]
  exact h1
theorem at0_ok {l : List Nat} : ∀ {k : Nat}, (∃ j, j < k ∧ l.getD j 0 = 0) → at0 l k < k ∧ l.getD (at0 l k) 0 = 0
  | 0, ⟨j, h, _⟩ => by omega
  | k + 1, ⟨j, h1, h2⟩ => by
    by_cases h : l.getD k 0 = 0
    · rw [at0_yes h]; exact ⟨by omega, h⟩
    · rw [at0_not h]
      have hj : j < k := by
        rcases Nat.lt_or_ge j k with h3 | h3
        · exact h3
        · have : j = k := by omega
          subst this; exact absurd h2 h
      have := at0_ok (l := l) (k := k) ⟨j, hj, h2⟩
      exact ⟨by omega, this.2⟩
theorem at0_trn {s : List UInt8} (hn : 0 < s.length) : at0 (trn s) s.length < s.length ∧ (trn s).getD (at0 (trn s) s.length) 0 = 0 := by
  have h0 : (0 : Nat) ∈ trn s := trnN_mem.2 hn
  obtain ⟨j, hj, e⟩ := List.mem_iff_getElem.1 h0
  refine at0_ok ⟨j, by rw [trn_len] at hj; exact hj, ?_⟩
  rw [getD_len hj]; exact e
theorem fol_rot {s : List UInt8} (hn : 0 < s.length) : ∀ k, k < s.length → folN (lastL s) (at0 (trn s) s.length) k < s.length ∧ rotL s ((trn s).getD (folN (lastL s) (at0 (trn s) s.length) k) 0) = rotL s k
  | 0, _ => ⟨(at0_trn hn).1, by rw [show folN (lastL s) (at0 (trn s) s.length) 0 = at0 (trn s) s.length from rfl, (at0_trn hn).2]⟩
  | k + 1, h => by
    obtain ⟨h1, h2⟩ := fol_rot hn k (by omega)
    have h3 : folN (lastL s) (at0 (trn s) s.length) (k + 1) < s.length := by
      have := folN_lt (s := lastL s) (a := at0 (trn s) s.length) (by rw [lastL_len]; exact (at0_trn hn).1) (k + 1)
      rwa [lastL_len] at this
    refine ⟨h3, ?_⟩
    have h4 := next_step h1
    rw [← folN_succ, h2] at h4
    have h5 : rr (rotL s (k + 1)) = rotL s k := by
      rw [rr_rot h]
      congr 1
      rw [back_mod h, if_neg (by omega)]; omega
    refine rr_inj (by rw [rotL_len s (Nat.le_of_lt (trn_lt h3))]; exact hn) (by rw [rotL_len s (Nat.le_of_lt (trn_lt h3)), rotL_len s (by omega)]) (h4.trans h5.symm)
/-- A text is recovered from its last column (Burrows and Wheeler). -/
theorem bwt_back (s : List UInt8) : rsN (lastL s) (at0 (trn s) s.length) s.length = s := by
  by_cases hn : 0 < s.length
  · refine ext_getD (by rw [rsN_len]) fun k hk => ?_
    rw [rsN_len] at hk
    have e1 : (rsN (lastL s) (at0 (trn s) s.length) s.length).getD k 0 = (lastL s).getD (folN (lastL s) (at0 (trn s) s.length) (k + 1)) 0 := by
      simp [rsN, List.getD_eq_getElem?_getD, hk]
    obtain ⟨h1, h2⟩ := fol_rot hn k hk
    have h3 : folN (lastL s) (at0 (trn s) s.length) (k + 1) < s.length := by
      have := folN_lt (s := lastL s) (a := at0 (trn s) s.length) (by rw [lastL_len]; exact (at0_trn hn).1) (k + 1)
      rwa [lastL_len] at this
    have h4 := next_step h1
    rw [← folN_succ, h2] at h4
    have h6 : (rotL s k).getD 0 0 = s.getD k 0 := by
      have := rot_get hk hn
      rwa [Nat.add_zero, Nat.mod_eq_of_lt hk] at this
    have h5 : (rr (rotL s ((trn s).getD (folN (lastL s) (at0 (trn s) s.length) (k + 1)) 0))).getD 0 0 = (rotL s k).getD 0 0 := by rw [h4]
    rw [rr_zero, rotL_len s (Nat.le_of_lt (trn_lt h3)), last_rot (trn_lt h3), ← lastL_get h3, h6] at h5
    rw [e1, h5]
  · have e : s = [] := List.eq_nil_of_length_eq_zero (by omega)
    subst e
    rfl
theorem bwt_ok {s : List UInt8} (hs : s.length ≤ 120) : rstOk (lastL s) (at0 (trn s) s.length : Nat) = true ∧ rstR (lastL s) (at0 (trn s) s.length : Nat) = s := by
  have hb := bwt_back s
  have h1 : rtOk (lastL s) (at0 (trn s) s.length : Nat) = true := by
    have := at0_le (trn s) s.length
    by_cases hn : 0 < s.length
    · have := (at0_trn hn).1
      simp [rtOk, trnOk, lastL_len, hs]; omega
    · simp [rtOk, trnOk, lastL_len, hs]; omega
  have h2 : rstOk (lastL s) (at0 (trn s) s.length : Nat) = true := by
    rw [rstOk_b h1, rstB, lastL_len, hb]
    simp
  refine ⟨h2, ?_⟩
  rw [rstR_yes h2, lastL_len, hb]
end G294

/- Chapter 11: the cursor's prose and its draws. -/
namespace Go.Proofs.Ytbfchebnooanjaa
open Go.RowKit G294

/-- one of some texts is drawn -/
def DrawsTx (w : World) (g : Nat) (cv : Value) (n : Nat) (L : List (List UInt8)) (e : Ending) (w' : World) : Prop := ∃ r : List UInt8, e = .returned (.string (str r)) ∧ r ∈ L ∧ CurAt w' g cv n ∧ TurnIn g (g + 1) w w'

set_option maxHeartbeats 1000000 in
theorem of_any (g : Nat) (cv : Value) (m : Nat) (b : Nat) (L : List (List UInt8)) (w : World) (hc : CurAt w g cv m) (hm : m ≤ 100000000000) (hp : 0 < L.length) (hl : L.length ≤ 1000) (hbg : b ≠ g) (hbl : b < w.heap.size)
    (hcell : ∀ i u, (strs L)[i]? = some u → w.cell? ⟨b, i, none⟩ = some u) :
    Calls Try.prog 54 #[.pointer (some ⟨g, 0, none⟩), .slice (some ⟨b, 0, none⟩) L.length L.length] w (DrawsTx w g cv (m + 2) L) := by
  have HC := Lib.hid hcell
  clear hcell
  generalize hnn : L.length = n at *
  have HN := Lib.hid hnn
  clear hnn
  go_enter Try.func54, Try.ntmps54
  go_wp2_with fail
  refine (pick_any g cv m n _ hc hm).mono ?_
  rintro e w1 ⟨x, rfl, x0, x1, hc1, k1⟩
  have hxn : x < n := by
    unfold pickHi at x1
    split at x1 <;> omega
  clear x1
  obtain ⟨i, rfl⟩ := Int.eq_ofNat_of_zero_le x0
  have hi : i < L.length := by rw [HN.out]; omega
  have hcx : w1.cell? ⟨b, i, none⟩ = some (.string (str L[i])) :=
    (World.cell?_of_block (a := ⟨b, i, none⟩) (k1.block b hbl (by omega))).trans (HC.out i _ (strs_get L i hi))
  go_wp2_with fail
  go_ret
  exact ⟨L[i], rfl, List.getElem_mem hi, hc1, k1⟩

/-- some prose is drawn -/
def DrawsPr (w : World) (g : Nat) (cv : Value) (n : Nat) (e : Ending) (w' : World) : Prop := ∃ r : List UInt8, e = .returned (.string (str r)) ∧ r.length ≤ 240 ∧ CurAt w' g cv n ∧ TurnIn g (g + 1) w w'

def proseL : List (List UInt8) := [[97], [98], [110, 97], [97, 98], [116, 104, 101, 32], [97, 97, 97], [0]]

theorem proseL_len : ∀ r ∈ proseL, r.length ≤ 4 := by decide

set_option maxRecDepth 100000 in
set_option maxHeartbeats 4000000 in
theorem prose_any (g : Nat) (cv : Value) (m : Nat) (w : World) (hc : CurAt w g cv m) (hm : m ≤ 1000000) :
    Calls Try.prog 46 #[.pointer (some ⟨g, 0, none⟩)] w (DrawsPr w g cv (m + 130)) := by
  have hgw := hc.lt
  have HPL := Lib.hid proseL_len
  have HPS : Hid (strs proseL = [.string ⟨#[97]⟩, .string ⟨#[98]⟩, .string ⟨#[110, 97]⟩, .string ⟨#[97, 98]⟩, .string ⟨#[116, 104, 101, 32]⟩, .string ⟨#[97, 97, 97]⟩, .string ⟨#[0]⟩]) := rfl
  have HP7 : Hid (proseL.length = 7) := rfl
  go_enter Try.func46, Try.ntmps46
  go_wp2_with fail
  refine (pick_any g cv m 12 _ hc (by omega)).mono ?_
  rintro e w1 ⟨x, rfl, x0, x1, hc1, k1⟩
  have hx : x ≤ 11 := by simpa [pickHi] using x1
  have s1 := k1.size
  obtain ⟨x, rfl⟩ := Int.eq_ofNat_of_zero_le x0
  clear x1 x0
  go_wp2_with fail
  refine (one_any g cv _ 20 _ hc1 (by omega)).mono ?_
  rintro e w2 ⟨b, rfl, hc2, k2⟩
  have s2 := k2.size
  have k12 := turn_trans k1 k2 (by omega)
  obtain ⟨N, hN, hNb⟩ : ∃ N : Nat, N ≤ 60 ∧ (b = true → N = 60) ∧ (b = false → N = x) := by
    cases b
    · exact ⟨x, by omega, fun h => (by cases h), fun _ => rfl⟩
    · exact ⟨60, Nat.le_refl _, fun _ => rfl, fun h => (by cases h)⟩
  have HNB := Lib.hid hNb
  have HC2 := Lib.hid hc2
  have HK2 := Lib.hid k12
  clear hNb hc2 hc1 k1 k2 k12 hc
  go_upto_if 8 with fail
  go_cut [4] from 5 to 8 (fun y wx => y = .int .i64 N ∧ wx = w2)
  case first =>
    cases b with
    | true =>
      have e := HNB.out.1 rfl
      go_wp2_with fail
      go_meet
      exact ⟨by rw [e]; rfl, rfl⟩
    | false =>
      have e := HNB.out.2 rfl
      go_wp2_with fail
      go_meet
      exact ⟨by rw [e], rfl⟩
  case rest =>
  obtain ⟨rfl, rfl⟩ := hcut
  clear HNB
  go_wp2_with fail
  go_loopw [3, 4] (fun v y wr => ∃ (k : Nat) (t : List UInt8), k ≤ 60 ∧ y = .int .i64 k ∧ v = .string (str t) ∧ t.length + 4 * k ≤ 240 ∧ Hid (CurAt wr g cv (m + 4 + 2 * (60 - k))) ∧ Hid (TurnIn g (g + 1) w wr)) (fun _ y _ => (intOf y).toNat)
  case atStart => exact ⟨N, [], hN, rfl, rfl, by simp; omega, Lib.hid (HC2.out.more (by omega)), HK2⟩
  case round =>
    clear HC2 HK2
    obtain ⟨k, t, hk, rfl, rfl, htl, HC, HK⟩ := hrel
    have hsz := str_size t
    by_cases hlt : 0 < k
    · have hki : (0 : Int) < (k : Int) := by omega
      obtain ⟨q, rfl⟩ : ∃ q, k = q + 1 := ⟨k - 1, by omega⟩
      have ka := turn_alloc wr (.cells #[.string ⟨#[97]⟩, .string ⟨#[98]⟩, .string ⟨#[110, 97]⟩, .string ⟨#[97, 98]⟩, .string ⟨#[116, 104, 101, 32]⟩, .string ⟨#[97, 97, 97]⟩, .string ⟨#[0]⟩] 9)
      have hgr := HC.out.lt
      have HCA := Lib.hid (HC.out.keep ka (by omega))
      have HKA := Lib.hid (turn_trans HK.out ka (by omega))
      have hszr := HK.out.size
      have HOF := Lib.hid (of_any g cv (m + 4 + 2 * (60 - (q + 1))) wr.heap.size proseL (wr.alloc (.cells #[.string ⟨#[97]⟩, .string ⟨#[98]⟩, .string ⟨#[110, 97]⟩, .string ⟨#[97, 98]⟩, .string ⟨#[116, 104, 101, 32]⟩, .string ⟨#[97, 97, 97]⟩, .string ⟨#[0]⟩] 9)) HCA.out (by omega) (by rw [HP7.out]; omega) (by rw [HP7.out]; omega) (by omega) (by simp) (fun i u hu => by
        rw [HPS.out] at hu
        simpa using hu))
      rw [HP7.out] at HOF
      clear ka HC HK
      go_wp2_with fail
      refine HOF.out.mono ?_
      rintro e w3 ⟨r, rfl, hr, hc3, k3⟩
      have hrl := HPL.out r hr
      have HC3 := Lib.hid hc3
      have HK3 := Lib.hid (turn_trans HKA.out k3 (by omega))
      have hsr := str_size r
      have HAP : Hid (str t ++ str r = str (t ++ r)) := str_append t r
      have hlen : (t ++ r).length = t.length + r.length := List.length_append
      clear hc3 k3 hr HOF HCA HKA
      go_wp2_with fail
      go_roundw
      case rel => exact ⟨q, t ++ r, by omega, by go_num, by rw [HAP.out], by omega, Lib.hid (HC3.out.more (by omega)), HK3⟩
      case measure => simp [intOf] <;> omega
    · obtain rfl : k = 0 := by omega
      have hki : ¬ (0 : Int) < ((0 : Nat) : Int) := by omega
      by_cases h120 : 120 < t.length
      · have h120i : (120 : Int) < (t.length : Int) := by omega
        have h120d : decide ((120 : Int) < (t.length : Int)) = true := decide_eq_true h120i
        have hpre := pre_extract t 120
        have HTK : Hid ((t.take 120).length ≤ 240) := Lib.hid (by rw [List.length_take]; omega)
        have htl2 : t.length ≤ 240 := by omega
        have HTL := Lib.hid htl2
        generalize hnn : t.length = n at *
        have HNN := Lib.hid hnn
        clear hnn
        go_wp2_with fail
        refine (one_any g cv _ 4 _ HC.out (by omega)).mono ?_
        rintro e w3 ⟨b2, rfl, hc3, k3⟩
        have HC3 := Lib.hid hc3
        have HK3 := Lib.hid (turn_trans HK.out k3 (by omega))
        clear hc3 k3
        cases b2 with
        | true =>
          go_wp2_with fail
          go_ret
          exact ⟨t, rfl, by rw [HNN.out]; exact HTL.out, HC3.out.more (by omega), HK3.out⟩
        | false =>
          go_wp2_with fail
          go_ret
          exact ⟨t.take 120, rfl, HTK.out, HC3.out.more (by omega), HK3.out⟩
      · have h120i : ¬ (120 : Int) < (t.length : Int) := by omega
        have h120d : decide ((120 : Int) < (t.length : Int)) = false := decide_eq_false h120i
        go_wp2_with fail
        go_ret
        exact ⟨t, rfl, by omega, HC.out.more (by omega), HK.out⟩
/-- some text, drawn from a new cursor -/
def RetProse (w : World) (e : Ending) (w' : World) : Prop := ∃ r : List UInt8, e = .returned (.string (str r)) ∧ r.length ≤ 240 ∧ TurnIn 0 0 w w'

set_option maxHeartbeats 1000000 in
theorem drawTurnsOf_any (v : Value) (l : List UInt8) (w : World) (hv : Seen w v (bys l)) : Calls Try.prog 38 #[v] w (RetProse w) := by
  obtain ⟨A, c, hvv⟩ := hv.len
  rw [bys_length] at hvv
  subst hvv
  have hc := cur_new hv
  have k0 := turn_alloc w (.cells #[.slice A l.length c, .int .i64 0, .int .u64 0] 56)
  have s0 : w.heap.size < (w.alloc (.cells #[.slice A l.length c, .int .i64 0, .int .u64 0] 56)).heap.size := by simp
  have HP := Lib.hid (prose_any w.heap.size _ 0 _ hc (by omega))
  have HK := Lib.hid k0
  clear hc k0 s0
  go_enter Try.func38, Try.ntmps38
  go_wp2_with fail
  refine HP.out.mono ?_
  rintro e w1 ⟨r, rfl, hr, _, k1⟩
  have HF := Lib.hid (turn_trans HK.out k1 (by omega))
  have HR := Lib.hid hr
  clear k1 hr
  go_wp2_with fail
  go_ret
  exact ⟨r, rfl, HR.out, HF.out⟩

set_option maxHeartbeats 1000000 in
theorem drawTransform_any (v : Value) (l : List UInt8) (w : World) (hv : Seen w v (bys l)) : Calls Try.prog 13 #[v] w (RetProse w) := by
  have HP := Lib.hid (drawTurnsOf_any v l w hv)
  obtain ⟨A, c, hvv⟩ := hv.len
  rw [bys_length] at hvv
  generalize l.length = n at hvv
  subst hvv
  clear hv
  go_enter Try.func13, Try.ntmps13
  go_wp2_with fail
  refine HP.out.mono ?_
  rintro e w1 ⟨r, rfl, hr, k1⟩
  have HF := Lib.hid (And.intro hr k1)
  clear k1 hr
  go_wp2_with fail
  go_ret
  exact ⟨r, rfl, HF.out.1, HF.out.2⟩

set_option maxHeartbeats 1000000 in
theorem drawNextOf_any (v : Value) (l : List UInt8) (w : World) (hv : Seen w v (bys l)) : Calls Try.prog 22 #[v] w (RetProse w) := by
  have HP := Lib.hid (drawTurnsOf_any v l w hv)
  obtain ⟨A, c, hvv⟩ := hv.len
  rw [bys_length] at hvv
  generalize l.length = n at hvv
  subst hvv
  clear hv
  go_enter Try.func22, Try.ntmps22
  go_wp2_with fail
  refine HP.out.mono ?_
  rintro e w1 ⟨r, rfl, hr, k1⟩
  have HF := Lib.hid (And.intro hr k1)
  clear k1 hr
  go_wp2_with fail
  go_ret
  exact ⟨r, rfl, HF.out.1, HF.out.2⟩

/-- some text and some number -/
def RetPrI (w : World) (e : Ending) (w' : World) : Prop := ∃ (r : List UInt8) (k : Int), e = .returned (.tuple #[.string (str r), .int .i64 k]) ∧ r.length ≤ 240 ∧ TurnIn 0 0 w w'

set_option maxRecDepth 100000 in
set_option maxHeartbeats 2000000 in
theorem drawRestore_any (v : Value) (l : List UInt8) (w : World) (hv : Seen w v (bys l)) : Calls Try.prog 20 #[v] w (RetPrI w) := by
  obtain ⟨A, c, hvv⟩ := hv.len
  rw [bys_length] at hvv
  subst hvv
  have hc := cur_new hv
  have k0 := turn_alloc w (.cells #[.slice A l.length c, .int .i64 0, .int .u64 0] 56)
  have s0 : w.heap.size < (w.alloc (.cells #[.slice A l.length c, .int .i64 0, .int .u64 0] 56)).heap.size := by simp
  have HP := Lib.hid (prose_any w.heap.size _ 0 _ hc (by omega))
  have HK := Lib.hid k0
  clear hc k0 s0
  go_enter Try.func20, Try.ntmps20
  go_wp2_with fail
  refine HP.out.mono ?_
  rintro e w1 ⟨r, rfl, hr, hc1, k1⟩
  have HT := Lib.hid (sTransform_own r w1 (by omega))
  have hgl := hc1.lt
  have HC1 := Lib.hid hc1
  have HK1 := Lib.hid (turn_trans HK.out k1 (by omega))
  have htl : (trfR r).length ≤ 240 := by
    unfold trfR; split
    · rw [lastL_len]; exact hr
    · simp
  have HTL := Lib.hid htl
  have hsz := str_size r
  clear hc1 k1 htl
  go_wp2_with fail
  refine HT.out.mono ?_
  rintro e w2 ⟨rfl, k2⟩
  have HC2 := Lib.hid (HC1.out.keep k2 (by omega))
  have HK2 := Lib.hid (turn_trans HK1.out k2 (by omega))
  clear k2
  have HR := Lib.hid hr
  generalize trfX r = X at *
  generalize trfR r = T at *
  generalize trnOk r = ok at *
  have HPI := Lib.hid (fun n W (h : CurAt W w.heap.size (.slice A l.length c) 132) => pick_any w.heap.size _ 132 n W h (by omega))
  cases ok with
  | false =>
    have HC3 := Lib.hid (HC2.out.more (m := 132) (by omega))
    go_wp2_with fail
    refine (HPI.out _ _ HC3.out).mono ?_
    rintro e w3 ⟨x, rfl, x0, x1, hc3, k3⟩
    have HF := Lib.hid (turn_trans HK2.out k3 (by omega))
    have hx2 : x ≤ 1000 := by unfold pickHi at x1; split at x1 <;> omega
    clear x1 hc3 k3
    go_wp2_with fail
    go_ret2
    exact ⟨r, _, rfl, HR.out, HF.out⟩
  | true =>
    go_wp2_with fail
    refine (one_any w.heap.size _ _ 4 _ HC2.out (by omega)).mono ?_
    rintro e w3 ⟨b, rfl, hc3, k3⟩
    have HC3 := Lib.hid (hc3.more (m := 132) (by omega))
    have HK3 := Lib.hid (turn_trans HK2.out k3 (by omega))
    clear hc3 k3
    cases b with
    | false =>
      go_wp2_with fail
      go_ret2
      exact ⟨T, X, rfl, HTL.out, HK3.out⟩
    | true =>
      go_wp2_with fail
      refine (HPI.out _ _ HC3.out).mono ?_
      rintro e w4 ⟨x, rfl, x0, x1, hc4, k4⟩
      have HF := Lib.hid (turn_trans HK3.out k4 (by omega))
      have hx2 : x ≤ 1000 := by unfold pickHi at x1; split at x1 <;> omega
      clear x1 hc4 k4
      go_wp2_with fail
      go_ret2
      exact ⟨r, _, rfl, HR.out, HF.out⟩

end Go.Proofs.Ytbfchebnooanjaa

/- Chapter 11: NextOf, the model's. -/
namespace G294
open Go Go.RowKit
/-- the places met so far -/
def metN (s : List UInt8) (b i : Nat) : List Nat := (List.range b).flatMap (posN s s.length) ++ posN s i b
theorem metN_zero (s : List UInt8) : metN s 0 0 = [] := rfl
theorem metN_next (s : List UInt8) (b : Nat) : metN s b s.length = metN s (b + 1) 0 := by
  simp [metN, List.range_succ, List.flatMap_append, posN_zero]
theorem metN_all (s : List UInt8) : metN s 256 0 = nxtL s := by simp [metN, nxtL, posN_zero]
theorem metN_yes {s : List UInt8} {b i : Nat} (h : byN s i = b) : metN s b (i + 1) = metN s b i ++ [i] := by
  unfold metN; rw [posN_yes h, List.append_assoc]
theorem metN_not {s : List UInt8} {b i : Nat} (h : byN s i ≠ b) : metN s b (i + 1) = metN s b i := by
  unfold metN; rw [posN_not h]
theorem metN_len {s : List UInt8} {b i : Nat} (h : i ≤ s.length) (hb : b < 256) : (metN s b i).length ≤ s.length := by
  have h1 : (metN s b i).length = fstN s b + (posN s i b).length := by simp [metN, fstN]
  have h2 := posN_le h b
  have h3 := fstN_le (s := s) (b := b + 1) (by omega)
  rw [fstN_succ] at h3
  omega
end G294
namespace Go.Proofs.Ytbfchebnooanjaa
open Go.RowKit G294

set_option maxRecDepth 100000 in
set_option maxHeartbeats 2000000 in
theorem l11Next_own (s : List UInt8) (w : World) (hs : s.length ≤ 120) : Calls Try.prog 50 #[.string (str s)] w (RetInts 3 w (natI (nxtL s))) := by
  have hsz : (str s).size = s.length := str_size s
  have HMA := Lib.hid (metN_all s)
  have HMN := Lib.hid (metN_next s)
  have HML := Lib.hid (fun b i (h : i ≤ s.length) (hb : b < 256) => metN_len (s := s) h hb)
  have HMY := Lib.hid (fun b i (h : byN s i = b) => metN_yes (s := s) h)
  have HMX := Lib.hid (fun b i (h : byN s i ≠ b) => metN_not (s := s) h)
  have HSG := Lib.hid (fun k h => str_get s k h)
  have HBD : Hid (∀ i, byN s i = (s.getD i 0).toNat) := fun _ => rfl
  have HO0 : Hid (OwnInts 3 w w.heap.size w.heap.size (.slice none 0 0) (natI (metN s 0 0))) := OwnInts.nil _ _ _
  rw [← HMA.out]
  generalize hnn : s.length = n at *
  clear hnn
  go_enter Try.func50, Try.ntmps50
  go_wp2_with fail
  go_loopw [3, 4] (fun v x wr => ∃ b : Nat, b ≤ 256 ∧ x = .int .i64 b ∧ Hid (OwnInts 3 wr w.heap.size wr.heap.size v (natI (metN s b 0))) ∧ Hid (TurnIn 0 0 w wr)) (fun _ x _ => 256 - (intOf x).toNat)
  case atStart => exact ⟨0, Nat.zero_le _, rfl, HO0, Lib.hid (TurnIn.refl _)⟩
  case round =>
    clear HO0
    obtain ⟨b, hb, rfl, HO, HT⟩ := hrel
    by_cases hlt : b < 256
    · have hbi : (b : Int) < 256 := by omega
      have HMN2 := Lib.hid (HMN.out b)
      have HOB := HO
      have HTB := HT
      clear HO HT
      generalize wr = wo at *
      go_wp2_with fail
      go_loopw [3, 5] (fun v x wr => ∃ i : Nat, i ≤ n ∧ x = .int .i64 i ∧ Hid (OwnInts 3 wr w.heap.size wr.heap.size v (natI (metN s b i))) ∧ Hid (TurnIn 0 0 w wr)) (fun _ x _ => n - (intOf x).toNat)
      case atStart => exact ⟨0, Nat.zero_le _, rfl, HOB, HTB⟩
      case round =>
        clear HOB HTB
        obtain ⟨i, hi, rfl, HO, HT⟩ := hrel
        by_cases hlti : i < n
        · have hii : (i : Int) < (n : Int) := by omega
          have hml := HML.out b i hi hlt
          have g1 := HSG.out i (by omega)
          have HBD2 := Lib.hid (HBD.out i)
          have HY := Lib.hid (HMY.out b i)
          have HX := Lib.hid (HMX.out b i)
          generalize s.getD i 0 = c at *
          have hcl : c.toNat < 256 := c.toNat_lt
          by_cases hcb : c.toNat = b
          · have hcc : ((c.toNat : Int) == (b : Int)) = true := by rw [beq_iff_eq]; omega
            have HY2 := Lib.hid (HY.out (HBD2.out.trans hcb))
            obtain ⟨t, ht⟩ : ∃ t, (metN s b i).length = t := ⟨_, rfl⟩
            have hOn := HO.out.1
            rw [natI_len, ht] at hOn
            have hts : t ≤ n := by rw [← ht]; exact hml
            have HO2 := Lib.hid (hOn.alloc (.cells #[.int .i64 (i : Int)] 3))
            have KA := Lib.hid (turn_trans HT.out (turn_alloc wr (.cells #[.int .i64 (i : Int)] 3)) (by omega))
            have hwr := HT.out.size
            have HTL := Lib.hid ht
            clear hOn ht HY HX HO hcb hml HBD2
            go_wp2_with (at_builtin; refine wpList_append1 rfl _ _ _ rfl w.heap.size 3 _ _ Try.underlying28 infoInt rfl _ t _ rfl HO2.out wr.heap.size (.int .i64 (i : Int)) rfl ?c1 rfl ?c2 ?c3 ?c4 ?_)
            case c1 => simp
            case c2 => omega
            case c3 => omega
            case c4 => simp; omega
            intro v' w3 hown3 hg3 _
            have K3 := Lib.hid (growT KA.out hg3 (fun g e => (HO2.out.lt g e).1))
            have HO3 : Hid (OwnInts 3 w3 w.heap.size w3.heap.size v' (natI (metN s b (i + 1)))) := by
              refine ⟨?_, Nat.le_refl _, fun g hg => (hown3.lt g hg).2⟩
              rw [HY2.out, natI_append, ints_append, List.length_append, natI_len, HTL.out]
              exact hown3
            clear hown3 hg3 HO2 KA
            go_wp2_with fail
            go_roundw
            case rel => exact ⟨i + 1, by omega, by go_num, HO3, K3⟩
            case measure => simp [intOf]; omega
          · have hcc : ((c.toNat : Int) == (b : Int)) = false := by rw [beq_eq_false_iff_ne]; omega
            have HO3 : Hid (OwnInts 3 wr w.heap.size wr.heap.size u3 (natI (metN s b (i + 1)))) := by
              show OwnInts _ _ _ _ _ _
              rw [HX.out (fun e => hcb (HBD2.out.symm.trans e))]; exact HO.out
            clear HY HX HO hcb
            go_wp2_with fail
            go_roundw
            case rel => exact ⟨i + 1, by omega, by go_num, HO3, HT⟩
            case measure => simp [intOf]; omega
        · obtain rfl : i = n := by omega
          have hii : ¬ (i : Int) < (i : Int) := by omega
          rw [HMN2.out] at HO
          go_wp2_with fail
          go_roundw
          case rel => exact ⟨b + 1, by omega, by go_num, HO, HT⟩
          case measure => simp [intOf]; omega
    · obtain rfl : b = 256 := by omega
      have hbi : ¬ ((256 : Nat) : Int) < 256 := by omega
      go_wp2_with fail
      go_ret
      exact ⟨_, rfl, HO.out, HT.out⟩

set_option maxHeartbeats 1000000 in
theorem sNextOf_own (s : List UInt8) (w : World) (hs : s.length ≤ 1000000000000) : Calls Try.prog 24 #[.string (str s)] w (RetIntsOk 3 w (nxtR s) (trnOk s)) := by
  have hsz : (str s).size = s.length := str_size s
  by_cases h : s.length ≤ 120
  · have HO : Hid (trnOk s = true) := by show _ = _; simpa [trnOk] using h
    have HR := Lib.hid (nxtR_yes HO.out)
    have HT := Lib.hid (l11Next_own s w h)
    rw [HR.out, HO.out]
    generalize s.length = n at *
    go_enter Try.func24, Try.ntmps24
    go_wp2_with fail
    refine HT.out.mono ?_
    rintro e w1 ⟨v, rfl, hO, hT⟩
    have HOT := Lib.hid (And.intro hO hT)
    clear hO hT
    go_wp2_with fail
    go_ret2
    exact ⟨v, rfl, HOT.out.1, HOT.out.2⟩
  · have HO : Hid (trnOk s = false) := by show _ = _; simpa [trnOk] using h
    have HR := Lib.hid (nxtR_no HO.out)
    rw [HR.out, HO.out]
    generalize s.length = n at *
    go_enter Try.func24, Try.ntmps24
    go_wp2_with fail
    go_ret2
    exact ⟨_, rfl, OwnInts.nil _ _ _, TurnIn.refl _⟩
end Go.Proofs.Ytbfchebnooanjaa
