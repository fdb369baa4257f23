/- Chapter 11: NextOf, the program's. -/
import Derived.Test.YtbfchebnooanjaaRooms
set_option linter.unusedSimpArgs false
set_option linter.unusedVariables false
namespace G294
open Go Go.RowKit
theorem OwnInts.storeI {E : TypeId} {w : World} {lo hi g n cap q : Nat} {l l' : List Int} {x : Int} (h : OwnInts E w lo hi (.slice (some ⟨g, 0, none⟩) n cap) l) (hn : l.length = n) (e : l.set q x = l') :
    OwnInts E (w.setCell ⟨g, q, none⟩ (.int .i64 x)) lo hi (.slice (some ⟨g, 0, none⟩) n cap) l' := by
  have h1 := h.1
  rw [hn] at h1
  have hst := h1.stored q (.int .i64 x)
  refine ⟨?_, by simpa using h.2.1, h.2.2⟩
  have e2 : ints l' = (ints l).set q (.int .i64 x) := by rw [← e]; simp [ints, List.map_set]
  have e3 : l'.length = n := by rw [← e]; simpa using hn
  rw [e2, e3]
  exact hst.1
theorem natI_set (l : List Nat) (q x : Nat) : (natI l).set q (x : Int) = natI (l.set q x) := by simp [natI, List.map_set]
def nxtR (s : List UInt8) : List Int := if trnOk s = true then natI (nxtL s) else []
theorem nxtR_no {s : List UInt8} (h : trnOk s = false) : nxtR s = [] := if_neg (by rw [h]; decide)
theorem nxtR_yes {s : List UInt8} (h : trnOk s = true) : nxtR s = natI (nxtL s) := if_pos h
theorem nxtR_len (s : List UInt8) : (nxtR s).length ≤ 120 := by
  unfold nxtR; split
  · rename_i h
    rw [natI_len, nxtL_len]
    simpa [trnOk] using h
  · simp
theorem TurnIn.mono {a b : Nat} {w w' : World} (t : TurnIn 0 0 w w') : TurnIn a b w w' := ⟨t.os, t.tape, t.output, t.size, fun k hk _ => t.block k hk (by omega)⟩
theorem setCells_one (w : World) (b o : Nat) (v : Value) : w.setCells b o [v] = w.setCell ⟨b, o, none⟩ v := rfl
end G294
namespace Go.Proofs.Ytbfchebnooanjaa
open Go.RowKit G294

set_option maxRecDepth 100000 in
set_option maxHeartbeats 4000000 in
theorem nextOf_own (s : List UInt8) (w : World) (hs : s.length ≤ 1000000000000) : Calls Try.prog 23 #[.string (str s)] w (RetIntsOk 3 w (nxtR s) (trnOk s)) := by
  obtain ⟨i0, hi0, hz0, hz1, hz2⟩ := info_parts infoInt
  have hsz : (str s).size = s.length := str_size s
  have HG := Lib.hid (fun W => goodTurnText_any s W hs)
  by_cases h : trnOk s = true
  · have HO := Lib.hid h
    have HR := Lib.hid (nxtR_yes h)
    have hn : s.length ≤ 120 := by simpa [trnOk] using h
    have HRI := Lib.hid (fun g W => roomsIn_own s g s.length W hn (Nat.le_refl _))
    have HF0 := Lib.hid (filN_zero s)
    have HFA := Lib.hid (filN_all s)
    have HFL := Lib.hid (fun i (hi : i ≤ s.length) => filN_len (s := s) hi)
    have HFS := Lib.hid (fun i (hi : i < s.length) => filN_step (s := s) hi)
    have HPL := Lib.hid (fun i (hi : i < s.length) => posN_lt (s := s) hi)
    have HRS := Lib.hid (fun g i => roomsL_step g s i)
    have HBL := Lib.hid (byN_lt s)
    have HBD : Hid (∀ i, byN s i = (s.getD i 0).toNat) := fun _ => rfl
    have HSG := Lib.hid (fun k h => str_get s k h)
    have HRV : Hid (∀ g i b, roomV g s i b = .slice (some ⟨g, offN s b, none⟩) (posN s i b).length (cntB s b)) := fun _ _ _ => rfl
    have HOF := Lib.hid (fun b (hb : 0 < cntB s b) => offN_yes (s := s) hb)
    have HPY := Lib.hid (fun i => posN_yes (s := s) (i := i) (b := byN s i) rfl)
    rw [HO.out] at HG
    rw [HR.out, HO.out]
    clear h
    generalize hnn : s.length = n at *
    clear hnn
    go_enter Try.func23, Try.ntmps23
    go_wp2_with fail
    refine (HG.out _).mono ?_
    rintro e w' ⟨rfl, rfl⟩
    go_wp2_with (at_make; refine wpList_make_full _ rfl _ _ _ rfl w.heap.size _ i0 _ 1 Try.underlying28 hi0 hz0 hz1 _ _ _ _ n rfl rfl rfl rfl ?b2 ?b3 ?b4 ?_)
    case b2 => rw [hz2]; omega
    case b3 => unfold maxLen; omega
    case b4 => exact Nat.le_refl _
    intro w1 hown1 hg1
    have HB1 := Lib.hid (TurnIn.of_grown (lo := 0) (hi := 0) hg1 (fun g h => by simp at h))
    rw [toList_madeCells_one] at hown1
    have hBlt := (hown1.lt w.heap.size rfl).2
    have HF : Hid (OwnInts 3 w1 w.heap.size (w.heap.size + 1) (.slice (some ⟨w.heap.size, 0, none⟩) n n) (natI (filN s 0))) := by
      refine ⟨?_, by omega, fun g hg => ?_⟩
      · rw [HF0.out]
        have e : ints (natI (List.replicate n 0)) = List.replicate n (.int .i64 0) := by simp [ints, natI]
        rw [e, natI_len, List.length_replicate]
        exact hown1
      · have e : w.heap.size = g := by simpa [Value.ownBlock] using hg
        omega
    clear hg1 hown1
    generalize hB : w.heap.size = B at *
    have HBE := Lib.hid hB
    clear hB
    go_wp2_with fail
    refine (HRI.out B _).mono ?_
    rintro e w2 ⟨rfl, k2⟩
    have HF2 := Lib.hid (HF.out.keep k2 (by omega))
    have HT2 := Lib.hid (turn_trans HB1.out k2 (by omega))
    have hw2 := k2.size
    clear k2 HF HB1
    go_wp2_with (refine wpList_alloc_arv rfl 62 rfl _ zeroRooms ?_)
    intro W3 hW3
    replace hW3 := hW3.out
    have t3 := hW3 ▸ turn_alloc w2 (.cells (List.replicate 256 (Value.slice none 0 0)).toArray 62)
    have r3 := hW3 ▸ ArrW.new w2 62 (List.replicate 256 (Value.slice none 0 0))
    have z3 := hW3 ▸ World.size_alloc w2 (.cells (List.replicate 256 (Value.slice none 0 0)).toArray 62)
    clear hW3
    generalize hR : w2.heap.size = R at *
    have HRB : B < R := by omega
    clear hR
    go_wp2_with (refine wpList_store_arv rfl 62 _ _ rfl R 256 _ _ (roomsL B s 0) rfl rfl r3 sizeRooms (by simp) (roomsL_len B s 0) (slices_one (fun u hu => laid_one B s 256 u (by rw [laidL_all]; exact hu))) ?_)
    intro W4 hW4
    replace hW4 := hW4.out
    have R4 := Lib.hid (hW4 ▸ r3.row (roomsL B s 0))
    have t4 := hW4 ▸ turn_rowV W3 R (roomsL B s 0).toArray
    have HF4 := Lib.hid ((HF2.out.keep t3 (by omega)).keep t4 (by omega))
    have HT4 := Lib.hid (turn_trans (turn_trans HT2.out t3 (by omega)) t4 (by have := HBE.out; omega))
    clear hW4 t3 t4 r3 z3 HF2 HT2
    go_wp2_with fail
    go_loopw [18] (fun x wr => ∃ i : Nat, i ≤ n ∧ x = .int .i64 i ∧ Hid (OwnInts 3 wr B (B + 1) (.slice (some ⟨B, 0, none⟩) n n) (natI (filN s i))) ∧ Hid (ArrW wr R 62 (roomsL B s i)) ∧ Hid (TurnIn 0 0 w wr)) (fun x _ => n - (intOf x).toNat)
    case atStart => exact ⟨0, Nat.zero_le _, rfl, HF4, R4, HT4⟩
    case round =>
      clear HF4 R4 HT4
      obtain ⟨i, hi, rfl, HF, HA, HT⟩ := hrel
      by_cases hlt : i < n
      · have hki : (i : Int) < (n : Int) := by omega
        have hpl := HPL.out i hlt
        obtain ⟨hfs1, hfs2⟩ := HFS.out i hlt
        have HFS2 := Lib.hid hfs2
        have g1 := HSG.out i (by omega)
        have hbl := HBL.out i
        have HBD2 := Lib.hid (HBD.out i)
        have hoff := HOF.out (byN s i) (by omega)
        have HRS2 := Lib.hid (HRS.out B i)
        have HV0 := Lib.hid (HRV.out B i (byN s i))
        have HV1 := Lib.hid (HRV.out B (i + 1) (byN s i))
        rw [HPY.out i, List.length_append, List.length_singleton] at HV1
        have c1 := HA.out.cell (roomsL_get B s i hbl)
        have hfl := HFL.out i (by omega)
        have hOn := HF.out.1
        rw [natI_len, hfl] at hOn
        have HSP : Hid (∃ u, wr.cell? ⟨B, fstN s (byN s i) + (posN s i (byN s i)).length, none⟩ = some u) := ⟨_, by
          have := hOn.cellAt (fstN s (byN s i) + (posN s i (byN s i)).length) (by omega)
          rw [this]
          exact List.getElem?_eq_getElem (by rw [ints_length, natI_len, hfl]; omega)⟩
        have HFZ := Lib.hid (hOn.frozenAt (fstN s (byN s i) + (posN s i (byN s i)).length))
        have HSTO := Lib.hid (HF.out.storeI (q := fstN s (byN s i) + (posN s i (byN s i)).length) (x := (i : Int)) (by rw [natI_len, hfl]) (by rw [natI_set, hfs2]))
        have HAF := Lib.hid (HA.out.frozen (byN s i))
        have hRlt := HA.out.lt
        rw [hoff] at HV0 HV1
        rw [HV0.out] at c1
        clear hfs2 hoff hOn
        generalize hc : s.getD i 0 = c at *
        obtain ⟨cN, hcN⟩ : ∃ cN, byN s i = cN := ⟨_, rfl⟩
        rw [hcN] at hpl hfs1 hbl HBD2 HRS2 HV1 c1 HSP HFZ HSTO HAF
        have hcc : ((c.toNat : Nat) : Int) = (cN : Int) := by rw [HBD2.out]
        obtain ⟨f, hf⟩ : ∃ f, fstN s cN = f := ⟨_, rfl⟩
        obtain ⟨r, hr⟩ : ∃ r, (posN s i cN).length = r := ⟨_, rfl⟩
        obtain ⟨q, hq⟩ : ∃ q, cntB s cN = q := ⟨_, rfl⟩
        rw [hf, hr, hq] at HV1 c1
        rw [hr, hq] at hpl
        rw [hf, hr] at hfs1 HSP HFZ HSTO
        clear hf hr hq hcN HV0 HRV HOF HPY HBD2 hfl
        have KA : TurnIn 0 0 wr (wr.alloc (.cells #[.int .i64 (i : Int)] 3)).drew := TurnIn.of_below (((Below.refl _ _).alloc (Nat.le_refl _) _).drew)
        have hBwr : B < wr.heap.size := by omega
        have HCC : Hid (∀ j u, [Value.int .i64 (i : Int)][j]? = some u → (wr.alloc (.cells #[.int .i64 (i : Int)] 3)).drew.cell? ((⟨wr.heap.size, 0, none⟩ : Addr).add j) = some u) := fun j u hj => by
          match j, hj with
          | 0, hj =>
            simp only [List.getElem?_cons_zero, Option.some.injEq] at hj
            subst hj
            simp [Addr.add]
        have HSPA : Hid (∀ j, j < [Value.int .i64 (i : Int)].length → ((wr.alloc (.cells #[.int .i64 (i : Int)] 3)).drew.cell? ⟨B, f + r * 1 + j, none⟩).isSome = true ∧ (wr.alloc (.cells #[.int .i64 (i : Int)] 3)).drew.frozen? ⟨B, f + r * 1 + j, none⟩ = false) := fun j hj => by
          have hj0 : j = 0 := by simpa using hj
          subst hj0
          rw [Nat.mul_one, Nat.add_zero, World.cell?_of_block (KA.block B hBwr (by omega)), World.frozen?_of_block (KA.block B hBwr (by omega))]
          obtain ⟨u, hu⟩ := HSP.out
          exact ⟨by rw [hu]; rfl, HFZ.out⟩
        have KS : TurnIn B (B + 1) wr ((wr.alloc (.cells #[.int .i64 (i : Int)] 3)).drew.setCell ⟨B, f + r, none⟩ (.int .i64 (i : Int))) := turn_trans (TurnIn.mono KA) (turn_setF _ _ _ _) (by omega)
        have HR1 : Hid (((wr.alloc (.cells #[.int .i64 (i : Int)] 3)).drew.setCell ⟨B, f + r, none⟩ (.int .i64 (i : Int))).cell? ⟨R, cN, none⟩ = some (.slice (some ⟨B, f, none⟩) r q)) := (World.cell?_of_block (KS.block R hRlt (by omega))).trans c1
        have HR2 : Hid (((wr.alloc (.cells #[.int .i64 (i : Int)] 3)).drew.setCell ⟨B, f + r, none⟩ (.int .i64 (i : Int))).frozen? ⟨R, cN, none⟩ = false) := (World.frozen?_of_block (KS.block R hRlt (by omega))).trans HAF.out
        have faf : wr.frozen? ⟨R, cN, none⟩ = false := HAF.out
        have KW1 := turn_setF wr B (f + r) (.int .i64 (i : Int))
        have KW2 := turn_setF (wr.setCell ⟨B, f + r, none⟩ (.int .i64 (i : Int))) R cN (.slice (some ⟨B, f, none⟩) (r + 1) q)
        have KW3 : TurnIn 0 0 ((wr.setCell ⟨B, f + r, none⟩ (.int .i64 (i : Int))).setCell ⟨R, cN, none⟩ (.slice (some ⟨B, f, none⟩) (r + 1) q)) (((wr.setCell ⟨B, f + r, none⟩ (.int .i64 (i : Int))).setCell ⟨R, cN, none⟩ (.slice (some ⟨B, f, none⟩) (r + 1) q)).alloc (.cells #[.int .i64 (i : Int)] 3)).drew := TurnIn.of_below (((Below.refl _ _).alloc (Nat.le_refl _) _).drew)
        have HO5 := Lib.hid ((HSTO.out.keep KW2 (by omega)).keep KW3 (by omega))
        have HA5 := ((HA.out.keep KW1 (by omega)).set cN (.slice (some ⟨B, f, none⟩) (r + 1) q)).keep KW3 (by omega)
        rw [← HV1.out, HRS2.out, HV1.out] at HA5
        have HA6 := Lib.hid HA5
        have HT5 := Lib.hid (turn_trans (turn_trans (turn_trans HT.out KW1 (by have := HBE.out; omega)) KW2 (by have := HBE.out; omega)) KW3 (by omega))
        clear KA KS KW1 KW2 KW3 HA5 HA HT HF HSTO
        have hci : (cN : Int) < 256 := by omega
        go_wp2_with fail
        go_region_law ((refine step_append_room (by rfl) _ _ _ (by rfl) 3 i0 1 Try.underlying28 hi0 hz1 B f r q (by rfl) ⟨wr.heap.size, 0, none⟩ 1 1 [.int .i64 (i : Int)] (by rfl) (by rfl) HCC.out (by intro u hu; simp only [List.mem_singleton] at hu; subst hu; rfl) (by omega) HSPA.out ?_; rw [Nat.mul_one, setCells_one]; have d1 := HR1.out; have d2 := HR2.out))
        all_goals
          go_wp2_with fail
          go_roundw
          case rel => exact ⟨i + 1, by omega, by go_num, HO5, HA6, HT5⟩
          case measure => simp [intOf]; omega
      · obtain rfl : i = n := by omega
        have hki : ¬ (i : Int) < (i : Int) := by omega
        have HFin : Hid (OwnInts 3 wr w.heap.size wr.heap.size (.slice (some ⟨B, 0, none⟩) i i) (natI (nxtL s))) := by
          have := HF.out.widen
          rw [HFA.out] at this
          rw [HBE.out]; exact this
        go_wp2_with fail
        go_ret2
        exact ⟨_, rfl, HFin.out, HT.out⟩
  · have HO : Hid (trnOk s = false) := by show trnOk s = false; simpa using h
    have HR := Lib.hid (nxtR_no HO.out)
    rw [HO.out] at HG
    rw [HR.out, HO.out]
    clear h
    go_enter Try.func23, Try.ntmps23
    go_wp2_with fail
    refine (HG.out _).mono ?_
    rintro e w' ⟨rfl, rfl⟩
    go_wp2_with fail
    go_ret2
    exact ⟨_, rfl, OwnInts.nil _ _ _, TurnIn.refl _⟩
end Go.Proofs.Ytbfchebnooanjaa
