/- Joined texts: SlvD, RankS, RowS, DrpOkS, FstS, GoodSh, SpecShards. -/
import Derived.Test.YtbfchebnooanjaaDoorBd16
import Derived.Test.YtbfchebnooanjaaDoorBd11
import Derived.Test.YtbfchebnooanjaaDoorBd14
import Derived.Test.YtbfchebnooanjaaDoorBd12
import Derived.Test.YtbfchebnooanjaaDoorBd06
import Derived.BigQuiet
import Derived.Test.YtbfchebnooanjaaDoorBd07
import Derived.Deep.DeepMust
import Derived.Deep.RegionHeldLaw
import Derived.Deep.CutRange
import Derived.Deep.RegionHeld3
import Derived.Test.YtbfchebnooanjaaDoorBd10
set_option linter.unusedSimpArgs false
set_option linter.unusedVariables false
/- SolveDrops, the program's: what it solves for. -/
namespace G294
open Go Go.RowKit
/-- all rows of the drops -/
def slvM (l : List Sh) (b : Nat) : Mat := mkM l.length b (drF l b)
/-- the rows of the drops that are used -/
def uF (l : List Sh) (b : Nat) (U : List Sh) : Ents := fun i j => drF l b ((List.map (fun d : Sh => d.1) U).getD i 0).toNat j
def inL (l : List Sh) (U : List Sh) : Prop := ∀ d ∈ U, 0 ≤ d.1 ∧ d.1 < (l.length : Int)
theorem usedM_mk {l U : List Sh} {b : Nat} (h : inL l U) : usedM (slvM l b) U = mkM U.length b (uF l b U) := by
  have := pickM_mk (r := l.length) (c := b) (F := drF l b) (nos := U.map (·.1)) (fun i hi => by
    rw [List.length_map] at hi
    have e : (U.map (·.1)).getD i 0 = U[i].1 := by simp [List.getD, hi]
    rw [e]; exact h _ (List.getElem_mem hi))
  unfold usedM slvM
  rw [this, List.length_map]; rfl
theorem inL_dsh (l : List Sh) : inL l (dshL l) := fun d hd => by have := dshL_mem hd; exact ⟨this.1, this.2.1⟩
theorem rank_used {l U : List Sh} {b : Nat} (h : inL l U) (hu : 1 ≤ U.length) : rankR (usedM (slvM l b) U) ≤ b := by
  have hw : wid (usedM (slvM l b) U) = b := by rw [usedM_mk h, wid_mkM _ _ _ (by omega)]
  unfold rankR; split
  · have := (est_le (ent (usedM (slvM l b) U)) (usedM (slvM l b) U).length (wid (usedM (slvM l b) U))).2
    unfold rankN; omega
  · omega
/-- independent rows: as many as their rank, no more than blocks -/
def indU (l : List Sh) (b k : Nat) : List Sh := indK (slvM l b) (dshL l) k
theorem indU_in (l : List Sh) (b k : Nat) (hk : k ≤ l.length) : inL l (indU l b k) := indK_mem (inL_dsh l) k (by simpa using hk)
theorem indU_rank (l : List Sh) (b : Nat) (hb1 : 1 ≤ b) (hb2 : b ≤ 12) : ∀ k, k ≤ l.length → (indU l b k).length ≤ b ∧ (indU l b k = [] ∨ rankR (usedM (slvM l b) (indU l b k)) = (indU l b k).length)
  | 0, _ => ⟨by simp [indU, indK], .inl rfl⟩
  | k + 1, hk => by
    obtain ⟨h1, h2⟩ := indU_rank l b hb1 hb2 k (by omega)
    have hin := indU_in l b (k + 1) hk
    have e : indU l b (k + 1) = indS (slvM l b) (indU l b k) ((dshL l).getD k (0, [])) := rfl
    rw [e] at hin ⊢
    unfold indS at hin ⊢
    split
    · rename_i hr
      rw [if_pos hr] at hin
      have hlen : (indU l b k ++ [(dshL l).getD k (0, [])]).length = (indU l b k).length + 1 := by simp
      refine ⟨?_, .inr (by rw [hlen]; exact hr)⟩
      have := rank_used (b := b) hin (by omega)
      omega
    · exact ⟨h1, h2⟩
theorem indD_eq (l : List Sh) (b : Nat) : indD l b = indU l b l.length := rfl
theorem indD_ok {l : List Sh} {b : Nat} (hb1 : 1 ≤ b) (hb2 : b ≤ 12) : dbOk (slvM l b) (indD l b) = decide ((indD l b).length = b) := by
  rw [indD_eq]
  obtain ⟨h1, h2⟩ := indU_rank l b hb1 hb2 l.length (Nat.le_refl _)
  have hin := indU_in l b l.length (Nat.le_refl _)
  generalize indU l b l.length = U at *
  unfold dbOk
  by_cases hu : U.length = b
  · have hr : rankR (usedM (slvM l b) U) = U.length := by
      rcases h2 with h2 | h2
      · subst h2; simp at hu; omega
      · exact h2
    have hg : goodM (usedM (slvM l b) U) = true := by rw [usedM_mk hin]; exact good_mkM _ _ _ (by omega) (by omega) hb1 (by omega)
    rw [rankR, if_pos hg] at hr
    have hw : wid (usedM (slvM l b) U) = b := by rw [usedM_mk hin, wid_mkM _ _ _ (by omega)]
    simp [invOk, squareM, hg, hw, hu, hr]
  · have h : invOk (usedM (slvM l b) U) = false := by
      rw [Bool.eq_false_iff]; intro e
      simp only [invOk, squareM, Bool.and_eq_true, decide_eq_true_eq, usedM_length] at e
      obtain ⟨⟨hg, hw⟩, _⟩ := e
      have h0 := ((goodM_iff _).1 hg).1
      rw [usedM_length] at h0
      rw [usedM_mk hin, wid_mkM _ _ _ (by omega)] at hw
      exact hu hw
    rw [h]; simp [hu]
/-- the length of the texts -/
def txN (l : List Sh) : Nat := (l.getD 0 (0, [])).2.length
def slvOk (l : List Sh) (b : Int) : Bool := dropsOk l && (bcOk b && decide ((indD l b.toNat).length = b.toNat))
def slvR (l : List Sh) (b : Int) : List (List UInt8) := if slvOk l b = true then dbR (slvM l b.toNat) (indD l b.toNat) (txN l) else []
theorem slvR_no {l : List Sh} {b : Int} (h : slvOk l b = false) : slvR l b = [] := if_neg (by rw [h]; decide)
theorem slvR_yes {l : List Sh} {b : Nat} (h : slvOk l b = true) : slvR l b = dbR (slvM l b) (indD l b) (txN l) := by unfold slvR; rw [if_pos h]; simp
theorem bcOk_q {b : Int} (h : bcOk b = true) : ∃ q : Nat, b = (q : Int) ∧ 1 ≤ q ∧ q ≤ 12 := by
  have h := bcOk_b h
  exact ⟨b.toNat, by omega, by omega, by omega⟩
theorem indD_txt {l : List Sh} {b : Nat} (h : dropsOk l = true) : ∀ d ∈ indD l b, d.2.length = txN l ∧ d.2.length ≤ 40 := fun d hd => by
  obtain ⟨_, _, e, he, h2⟩ := indD_mem d hd
  have := (dropsOk_len h).2 e he
  rw [h2]; exact ⟨this.2.2.1, this.2.2.2⟩
end G294
namespace Go.Proofs.YtbfchebnooanjaaDoor
open Go.RowKit G294

attribute [local irreducible] drF

set_option maxRecDepth 100000 in
set_option maxHeartbeats 2000000 in
theorem solveDrops_own (v : Value) (l : List Sh) (b : Int) (w : World) (hv : SeenH w v l) (ht : Tab w) (h0 : 0 < w.heap.size) :
    Calls Tryd.prog 19 #[v, .int .i64 b] w (RetStrsOk 9 w (slvR l b) (slvOk l b)) := by
  have HV := Lib.hid hv
  have HGD := Lib.hid (fun W (h : SeenH W v l) => goodDrops_any v l W h)
  have HGB := Lib.hid (fun W => goodBlockCount_any b W)
  unfold RetBool at HGD
  obtain ⟨AV, cV, hvv⟩ := hv.len
  by_cases h1 : dropsOk l = true
  · by_cases h2 : bcOk b = true
    · obtain ⟨q, rfl, hq1, hq2⟩ := bcOk_q h2
      have HDR := Lib.hid (fun W (h : SeenH W v l) => dropRows_own v l q W h h1 hq1 hq2)
      have HID := Lib.hid (fun W (h : SeenH W v l) (h3 : Tab W ∧ 0 < W.heap.size) => independentDrops_own v l q W h h1 hq1 hq2 h3.1 h3.2)
      have HDB := Lib.hid (fun (x u : Value) (W : World) (hm : SeenM W x (slvM l q)) (hu : SeenH W u (indD l q)) (h3 : Tab W ∧ 0 < W.heap.size) =>
        decodedBy_own x (slvM l q) u (indD l q) (txN l) W hm hu (by have := indD_len l q; have := (dropsOk_len h1).1; omega)
          (fun i hi => by
            rw [List.length_map] at hi
            have e : ((indD l q).map (·.1)).getD i 0 = (indD l q)[i].1 := by simp [List.getD, hi]
            have := indD_mem (indD l q)[i] (List.getElem_mem hi)
            rw [e, slvM, mkM_length]; exact ⟨this.1, this.2.1⟩)
          (fun j hj => by
            have e : ((indD l q).map (·.2)).getD j [] = (indD l q)[j].2 := by simp [List.getD, hj]
            rw [e]; exact (indD_txt h1 _ (List.getElem_mem hj)).1)
          (by
            by_cases he : l = []
            · subst he; simp [txN]
            · have h5 : l.getD 0 (0, []) ∈ l := by
                cases l with
                | nil => exact absurd rfl he
                | cons a t => simp
              have := ((dropsOk_len h1).2 _ h5).2.2.2
              unfold txN; omega) h3.1 h3.2)
      have HT : Hid (∀ W, TurnIn 0 0 w W → Tab W ∧ 0 < W.heap.size) := fun W h => ⟨ht.below h.to_below h0, by have := h.size; omega⟩
      have HOK : Hid (dbOk (slvM l q) (indD l q) = slvOk l (q : Int)) := by
        show _ = _
        rw [indD_ok hq1 hq2, slvOk, h1, h2]; simp
      have HRR : Hid (dbR (slvM l q) (indD l q) (txN l) = slvR l (q : Int)) := by
        show _ = _
        by_cases ho : slvOk l (q : Int) = true
        · rw [slvR_yes ho]
        · have ho' : slvOk l (q : Int) = false := by simpa using ho
          rw [slvR_no ho', dbR_no (by rw [HOK.out]; exact ho')]
      rw [h1] at HGD
      rw [h2] at HGB
      rw [HOK.out, HRR.out] at HDB
      unfold RetMat at HDR
      unfold RetShs at HID
      unfold RetStrsOk at HDB
      have HSM : Hid (mkM l.length q (drF l q) = slvM l q) := rfl
      rw [HSM.out] at HDR
      clear hv ht h1 h2 HOK HRR HSM
      subst hvv
      generalize slvM l q = M at *
      generalize indD l q = U at *
      generalize slvOk l (q : Int) = ok at *
      generalize slvR l (q : Int) = R at *
      go_enter Tryd.func19, Tryd.ntmps19
      go_wp2_with fail
      refine (HGD.out _ HV.out).mono ?_
      rintro e w1 ⟨rfl, k1⟩
      have HK1 := Lib.hid k1
      clear k1
      go_wp2_with fail
      refine (HGB.out _).mono ?_
      rintro e w' ⟨rfl, rfl⟩
      go_wp2_with fail
      refine (HDR.out _ (HV.out.below HK1.out.to_below)).mono ?_
      rintro e w2 ⟨v2, vs2, rfl, o2, k2⟩
      obtain ⟨A2, n2, c2, rfl⟩ := o2.isSlice
      have HO2 := Lib.hid o2.seen
      have HK2 := Lib.hid (turn_trans HK1.out k2 (by omega))
      clear o2 k2
      go_wp2_with fail
      refine (HID.out _ (HV.out.below HK2.out.to_below) (HT.out _ HK2.out)).mono ?_
      rintro e w3 ⟨v3, rfl, o3, k3⟩
      obtain ⟨A3, c3, hv3⟩ := o3.seen.len
      have HO3 := Lib.hid o3.seen
      have HK3 := Lib.hid (turn_trans HK2.out k3 (by omega))
      have HO23 := Lib.hid (HO2.out.touch k3)
      generalize U.length = m3 at hv3
      subst hv3
      clear o3 k3
      go_wp2_with fail
      refine (HDB.out _ _ _ HO23.out HO3.out (HT.out _ HK3.out)).mono ?_
      rintro e w4 ⟨v4, rfl, o4, k4⟩
      have s3 := HK3.out.size
      have HO4 := Lib.hid o4
      have HK4 := Lib.hid (turn_trans HK3.out k4 (by omega))
      clear o4 k4
      go_wp2_with fail
      go_ret2
      exact ⟨v4, rfl, ⟨own_base HO4.out.1 s3, HO4.out.2⟩, HK4.out⟩
    · have h2' : bcOk b = false := by simpa using h2
      have HOK : Hid (slvOk l b = false) := by show _ = _; simp [slvOk, h2']
      have HR := Lib.hid (slvR_no HOK.out)
      rw [HOK.out, HR.out]
      rw [h1] at HGD
      rw [h2'] at HGB
      clear hv ht h1 h2 h2'
      subst hvv
      go_enter Tryd.func19, Tryd.ntmps19
      go_wp2_with fail
      refine (HGD.out _ HV.out).mono ?_
      rintro e w1 ⟨rfl, k1⟩
      have HK1 := Lib.hid k1
      clear k1
      go_wp2_with fail
      refine (HGB.out _).mono ?_
      rintro e w' ⟨rfl, rfl⟩
      go_wp2_with fail
      go_ret2
      exact ⟨_, rfl, ⟨World.ownsRow_nil _ _ _ _, Nat.le_refl _, fun g h => by simp [Value.ownBlock] at h⟩, HK1.out⟩
  · have h1' : dropsOk l = false := by simpa using h1
    have HOK : Hid (slvOk l b = false) := by show _ = _; simp [slvOk, h1']
    have HR := Lib.hid (slvR_no HOK.out)
    rw [HOK.out, HR.out]
    rw [h1'] at HGD
    clear hv ht h1 h1'
    subst hvv
    go_enter Tryd.func19, Tryd.ntmps19
    go_wp2_with fail
    refine (HGD.out _ HV.out).mono ?_
    rintro e w1 ⟨rfl, k1⟩
    have HK1 := Lib.hid k1
    clear k1
    go_wp2_with fail
    go_ret2
    exact ⟨_, rfl, ⟨World.ownsRow_nil _ _ _ _, Nat.le_refl _, fun g h => by simp [Value.ownBlock] at h⟩, HK1.out⟩

end Go.Proofs.YtbfchebnooanjaaDoor

/- The model's l2Rank. -/
namespace Go.Proofs.YtbfchebnooanjaaDoor
open Go.RowKit G294

set_option maxRecDepth 100000 in
set_option maxHeartbeats 1000000 in
theorem l2RankS_own (v : Value) (L : Mat) (w : World) (hs : SeenM w v L) (hg : goodM L = true) : Calls Tryd.prog 68 #[.agg #[v]] w (RetInt w (rankR L)) := by
  have k1 : TurnIn 0 0 w (w.alloc (.cells #[v] 67)) := turn_alloc _ _
  have q1 := alloc_cell w v 67
  have hs1 := hs.touch k1
  have HR : Hid (rankR L = (est (ent L) L.length (wid L)).2) := if_pos hg
  obtain ⟨g1, g2, g3, g4, _⟩ := (goodM_iff L).1 hg
  have HS : Hid (SeenM (w.alloc (.cells #[v] 67)) v (mkM L.length (wid L) (ent L))) := (good_eq hg) ▸ hs1
  obtain ⟨A, cp, rfl, hlc, hcm⟩ := hs.len
  clear hs hs1
  go_enter Tryd.func68, Tryd.ntmps68
  go_wp2_with fail
  refine (l2Reduce_own L.length (wid L) (wid L) (ent L) (ent L) _ _ _ HS.out HS.out g1 (by omega) g3 (by omega) g3 (by omega)).mono ?_
  rintro e w2 ⟨A2, a2, c2, vb, us, rfl, hM, k2⟩
  obtain ⟨A3, a3, c3, rfl⟩ := hM.isSlice
  have kk : TurnIn 0 0 w2 ((w2.alloc (.cells #[.slice A2 a2 c2] 67)).alloc (.cells #[.slice A3 a3 c3] 67)) := turn_trans (turn_alloc _ _) (turn_alloc _ _) (by omega)
  clear hM
  rw [← HR.out]
  go_wp2_with fail
  go_ret
  exact ⟨rfl, turn_trans (turn_trans k1 k2 (by omega)) kk (by omega)⟩

end Go.Proofs.YtbfchebnooanjaaDoor

/- Chapter 9: the row of a drop: the model's. -/
namespace G294
open Go Go.RowKit
theorem take_snoc9 (ks : List Nat) (k : Nat) (h : k < ks.length) : ks.take (k + 1) = ks.take k ++ [ks.getD k 0] := by
  rw [List.take_add_one, List.getElem?_eq_getElem h]; simp [List.getD, h]
theorem foldB_at (ks : List Nat) (F : Nat → Bool) (i : Nat) : (ks.foldl setB F) i = (F i || decide (i ∈ ks)) := by
  induction ks generalizing F with
  | nil => simp
  | cons k ks ih =>
    rw [List.foldl_cons, ih]
    unfold setB
    by_cases h : i = k
    · simp [h]
    · simp [h]
theorem foldB_snoc (ks : List Nat) (k : Nat) (F : Nat → Bool) : (ks ++ [k]).foldl setB F = setB (ks.foldl setB F) k := by rw [List.foldl_append]; rfl
theorem foldB_blk (s b : Nat) : mkRow b (rowB ((blkN s b).foldl setB fun _ => false)) = mkRow b (rowB (inF s b)) := by
  refine mkRow_congr fun i hi => ?_
  unfold rowB
  rw [foldB_at]
  congr 1
  cases h : inF s b i
  · simp [blkN, blkK_mem, h]
  · simp [blkN, blkK_mem, h, hi]
end G294
namespace Go.Proofs.YtbfchebnooanjaaDoor
open Go.RowKit G294

set_option maxRecDepth 100000 in
set_option maxHeartbeats 2000000 in
theorem l9Row_own (s b : Nat) (w : World) (hs : s ≤ 100000) (hb1 : 1 ≤ b) (hb2 : b ≤ 12) : Calls Tryd.prog 67 #[.int .i64 (s : Int), .int .i64 (b : Int)] w (RetBytes 5 w (mkRow b (rowB (inF s b)))) := by
  obtain ⟨i0, hi0, hz0, hz1, hz2⟩ := info_parts infoByte
  have HLB := Lib.hid (fun W => l9Blocks_own s b W hs hb1 hb2)
  have HTS := Lib.hid (take_snoc9 (blkN s b))
  have HEND := Lib.hid (foldB_blk s b)
  have HQ : Hid (∀ j, j < (blkN s b).length → (blkN s b).getD j 0 < b) := Lib.hid (fun j hj => (blkK_mem.1 (show (blkN s b).getD j 0 ∈ blkK (inF s b) b by rw [show (blkN s b).getD j 0 = (blkN s b)[j] by simp [List.getD, hj]]; exact List.getElem_mem hj)).1)
  have HKM : (blkN s b).length ≤ 12 := by have := blkK_len (inF s b) b; show (blkK _ _).length ≤ _; omega
  generalize blkN s b = ks at *
  generalize hm : ks.length = m at *
  have HMM := Lib.hid hm
  clear hm
  go_enter Tryd.func67, Tryd.ntmps67
  go_wp2_with (at_make; refine wpList_make_full _ rfl _ _ _ rfl w.heap.size _ i0 _ 1 Tryd.underlying22 hi0 hz0 hz1 _ _ _ _ b rfl rfl rfl rfl ?b2 ?b3 ?b4 ?_)
  case b2 => rw [hz2]; omega
  case b3 => unfold maxLen; omega
  case b4 => exact Nat.le_refl _
  intro w1 hown1 hg1
  have hb1' : Below w.heap.size w w1 := below_of_grown hg1 (Nat.le_refl _) (by simp)
  rw [toList_madeCells_one] at hown1
  clear hg1
  have hO : OwnBytes 5 w1 w.heap.size w1.heap.size (.slice (some ⟨w.heap.size, 0, none⟩) b b) (mkRow b (rowB fun _ => false)) := by
    refine OwnBytes.of_made ?_
    rw [mkRow_length, bys_zero b (rowB fun _ => false) (fun _ _ => rfl)]; exact hown1
  clear hown1
  go_wp2_with fail
  refine (HLB.out _).mono ?_
  rintro e w2 ⟨v2, rfl, o2, k2⟩
  have s1 := hb1'.size
  have s2 := k2.size
  have hO2 := hO.keep k2 (by omega)
  have hB2 := k2.base hb1' hb1'.size (by omega)
  have hlt1 : w.heap.size < w1.heap.size := hO.2.2 w.heap.size rfl
  have HO2 := Lib.hid o2
  obtain ⟨A7, c7, hv7, hl7, hm7, hx7⟩ := o2.seen
  rw [ints_length, intL_length, HMM.out] at hv7 hl7 hx7
  subst hv7
  unfold maxLen at hm7
  clear hx7 o2 hO k2 hb1'
  go_wp2_with fail
  go_loopw [14] (fun i wr => ∃ j : Nat, j ≤ m ∧ i = .int .i64 j ∧ OwnBytes 5 wr w.heap.size w1.heap.size (.slice (some ⟨w.heap.size, 0, none⟩) b b) (mkRow b (rowB ((ks.take j).foldl setB fun _ => false))) ∧ Below w.heap.size w wr ∧ TurnIn w.heap.size (w.heap.size + 1) w2 wr)
    (fun i _ => m - (intOf i).toNat)
  case atStart => exact ⟨0, Nat.zero_le _, rfl, hO2, hB2, ⟨rfl, rfl, rfl, Nat.le_refl _, fun _ _ _ => rfl⟩⟩
  case round =>
    obtain ⟨j, hj, rfl, hO, hb, ht⟩ := hrel
    clear hO2 hB2
    obtain ⟨A8, c8, hv8, hl8, hm8, hx8⟩ := (HO2.out.keep ht (by omega)).seen
    rw [ints_length, intL_length, HMM.out] at hv8 hl8 hx8
    simp only [Value.slice.injEq] at hv8
    obtain ⟨rfl, _, rfl⟩ := hv8
    have sb := hb.size
    have st := ht.size
    by_cases hlt : j < m
    · obtain ⟨b7, off7, rfl, hbl7, hcell7⟩ := hx8 (by omega)
      have hcq := hcell7 j _ (intL_get ks j (by rw [HMM.out]; exact hlt))
      have hq := HQ.out j (by first | exact hlt | (rw [HMM.out]; exact hlt))
      have HT := Lib.hid (HTS.out j (by first | exact hlt | (rw [HMM.out]; exact hlt)))
      generalize ks.getD j 0 = q at *
      have hji : (j : Int) < (m : Int) := by omega
      have hqi : (q : Int) < (b : Int) := by omega
      have hcs := hO.cellAt (k := q) (by simpa using hq)
      have hfr := hO.frozenAt q
      rw [mkRow_getD _ _ _ hq] at hcs
      have HST := Lib.hid (hO.store (q := q) (x := 1) (by simp) (rowB_set b q _))
      have HB2 : Hid (Below w.heap.size w (wr.setCell ⟨w.heap.size, q, none⟩ (.int .u8 ((1 : UInt8).toNat : Int)))) := Lib.hid (hb.setCell (Nat.le_refl _) _)
      have HT2 := Lib.hid (turn_trans ht (turn_setCell wr w.heap.size q (.int .u8 ((1 : UInt8).toNat : Int))) (by omega))
      clear hcell7 hx8 hO hb ht
      go_wp2_with fail
      go_roundw
      case rel => exact ⟨j + 1, by omega, by go_num, by rw [HT.out, foldB_snoc]; exact HST.out, HB2.out, HT2.out⟩
      case measure => simp [intOf]; omega
    · have hji : ¬ (j : Int) < (m : Int) := by omega
      have hall : ks.take j = ks := List.take_of_length_le (by first | omega | (rw [HMM.out]; omega))
      rw [hall, HEND.out] at hO
      have HF := Lib.hid hO
      clear hO hall hx8
      go_wp2_with fail
      go_ret
      exact ⟨_, rfl, ⟨HF.out.1, Nat.le_refl _, fun g e => by have := HF.out.2.2 g e; omega⟩, TurnIn.of_below hb⟩

end Go.Proofs.YtbfchebnooanjaaDoor

/- Chapter 9: valid drops: the model's. -/
namespace Go.Proofs.YtbfchebnooanjaaDoor
open Go.RowKit G294

set_option maxRecDepth 100000 in
set_option maxHeartbeats 4000000 in
theorem l9Drops_any (v : Value) (l : List Sh) (w : World) (hv : SeenH w v l) : Calls Tryd.prog 40 #[v] w (RetBool w (dropsOk l)) := by
  obtain ⟨A, c, rfl, hlc, hcm, hx⟩ := hv
  unfold maxLen at hcm
  have HM := Lib.hid (@dropsOk_many l)
  have HB := Lib.hid (fun i d => @dropsOk_bad l i d)
  have HOK : Hid (l.length ≤ 40 → (∀ (i : Nat) (d : Sh), i < l.length → l[i]? = some d → drpAt l d) → dropsOk l = true) := Lib.hid (fun h hs => (dropsOk_iff l).2 ⟨h, fun i d hd => hs i d (List.getElem?_eq_some_iff.1 hd).1 hd⟩)
  generalize hnn : l.length = n at *
  have HN := Lib.hid hnn
  clear hnn
  go_enter Tryd.func40, Tryd.ntmps40
  go_wp2_with fail
  go_loopw [7] (fun i wr => ∃ k : Nat, k ≤ n ∧ i = .int .i64 k ∧ Hid (∀ (j : Nat) (s : Sh), j < k → l[j]? = some s → drpAt l s) ∧ Below w.heap.size w wr)
    (fun i _ => n - (intOf i).toNat)
  case atStart => exact ⟨0, Nat.zero_le _, rfl, (fun j s h hj => by omega), Below.refl _ _⟩
  case round =>
    obtain ⟨k, hk, rfl, HE, hb⟩ := hrel
    by_cases hlt : k < n
    · obtain ⟨b, off, rfl, hbl, hcell⟩ := hx (by omega)
      obtain ⟨⟨no, s⟩, hks⟩ := at_lt HN.out hlt
      obtain ⟨⟨no0, s0⟩, hk0⟩ := at_lt (k := 0) HN.out (by omega)
      have hc1 := (hb.cell (p := ⟨b, off + k * 2, none⟩) hbl).trans (hcell k _ hks).1
      have hc2 := (hb.cell (p := ⟨b, off + k * 2 + 1, none⟩) hbl).trans (hcell k _ hks).2
      have hc0 := (hb.cell (p := ⟨b, off + 0 * 2 + 1, none⟩) hbl).trans (hcell 0 _ hk0).2
      simp only [Nat.zero_mul, Nat.add_zero] at hc1 hc2 hc0
      have hki : (k : Int) < (n : Int) := by omega
      have hni : (0 : Int) < (n : Int) := by omega
      have hbs := hb.size
      have k1 := turn_alloc wr (.cells #[.int .i64 no, .string (str s)] 84)
      have hb2 := hb.alloc hb.size (.cells #[.int .i64 no, .string (str s)] 84)
      have d0 := cell_turn k1 hc0 (by omega)
      have x1 : (wr.alloc (.cells #[.int .i64 no, .string (str s)] 84)).cell? ⟨wr.heap.size, 0, none⟩ = some (.int .i64 no) := by simp
      have x2 : (wr.alloc (.cells #[.int .i64 no, .string (str s)] 84)).cell? ⟨wr.heap.size, 1, none⟩ = some (.string (str s)) := by simp
      have hz := str_size s
      have hz0 := str_size s0
      have HG0 : Hid ((l.getD 0 (0, [])).2.length = s0.length) := by show _ = _; simp [List.getD, hk0]
      have HKS := Lib.hid hks
      clear hcell hx hks hk0 hc0 k1
      by_cases hA : seedOk no = true
      · have HC := Lib.hid (fun W : World => hA ▸ l9Seed_any no W)
        by_cases hC : s.length = s0.length
        · by_cases hD : s.length ≤ 40
          · have HK : Hid (∀ (jj : Nat) (s : Sh), jj < k + 1 → l[jj]? = some s → drpAt l s) := fun jj s' h hj => by
              rcases Nat.lt_or_ge jj k with h' | h'
              · exact HE.out jj s' h' hj
              · obtain rfl : jj = k := by omega
                obtain rfl : (no, s) = s' := Option.some.inj (HKS.out.symm.trans hj)
                exact ⟨hA, by rw [HG0.out]; exact hC, hD⟩
            clear hA
            generalize s.length = z at *
            generalize s0.length = z0 at *
            subst hC
            have tC : ((z : Int) != (z : Int)) = false := by simp
            have tD : decide ((40 : Int) < (z : Int)) = false := by simp; omega
            have tD' : decide (40 < z) = false := by simp; omega
            go_wp2_with fail
            go_quiet ((go_at_call 65; exact quietly (HC.out _)))
            go_wp2_with fail
            go_roundw
            case rel => exact ⟨k + 1, by omega, by go_num, HK, below_drewN hb2 _⟩
            case measure => simp [intOf]; omega
          · have HF : Hid (dropsOk l = false) := HB.out k _ HKS.out (fun h => hD h.2.2)
            clear hA
            generalize s.length = z at *
            generalize s0.length = z0 at *
            subst hC
            have tC : ((z : Int) != (z : Int)) = false := by simp
            have tD : decide ((40 : Int) < (z : Int)) = true := by simp; omega
            have tD' : decide (40 < z) = true := by simp; omega
            go_wp2_with fail
            go_quiet ((go_at_call 65; exact quietly (HC.out _)))
            go_wp2_with fail
            go_ret
            exact ⟨by rw [HF.out]; rfl, TurnIn.of_below (below_drewN hb2 _)⟩
        · have HF : Hid (dropsOk l = false) := HB.out k _ HKS.out (fun h => hC (by rw [← HG0.out]; exact h.2.1))
          clear hA
          generalize s.length = z at *
          generalize s0.length = z0 at *
          have tC : ((z : Int) != (z0 : Int)) = true := by rw [bne_iff_ne]; omega
          clear hC
          go_wp2_with fail
          go_quiet ((go_at_call 65; exact quietly (HC.out _)))
          go_wp2_with fail
          go_ret
          exact ⟨by rw [HF.out]; rfl, TurnIn.of_below (below_drewN hb2 _)⟩
      · have hA : seedOk no = false := by simpa using hA
        have HC := Lib.hid (fun W : World => hA ▸ l9Seed_any no W)
        have HF : Hid (dropsOk l = false) := HB.out k _ HKS.out (fun h => by have h1 : seedOk no = true := h.1; rw [hA] at h1; cases h1)
        clear hA
        go_wp2_with fail
        go_quiet ((go_at_call 65; exact quietly (HC.out _)))
        go_wp2_with fail
        go_ret
        exact ⟨by rw [HF.out]; rfl, TurnIn.of_below (below_drewN hb2 _)⟩
    · obtain rfl : k = n := by omega
      have hki : ¬ (k : Int) < (k : Int) := by omega
      by_cases h40 : k ≤ 40
      · have HF : Hid (dropsOk l = true) := HOK.out h40 HE.out
        have hd : decide ((k : Int) ≤ 40) = true := by simp; omega
        go_wp2_with fail
        go_ret
        exact ⟨by rw [HF.out]; rfl, TurnIn.of_below hb⟩
      · have HF : Hid (dropsOk l = false) := HM.out (by omega)
        have hd : decide ((k : Int) ≤ 40) = false := by simp; omega
        go_wp2_with fail
        go_ret
        exact ⟨by rw [HF.out]; rfl, TurnIn.of_below hb⟩

end Go.Proofs.YtbfchebnooanjaaDoor

/- l9First, the model's: independent rows of drops. -/
namespace G294
open Go Go.RowKit
theorem usedM_snoc (L : Mat) (U : List Sh) (x : Sh) : usedM L (U ++ [x]) = usedM L U ++ [L.getD x.1.toNat []] := by simp [usedM, pickM]
theorem slvM_row {l : List Sh} {b i : Nat} (h : i < l.length) : (slvM l b).getD i [] = mkRow b (rowB (inF (l.getD i (0, [])).1.toNat b)) := by
  unfold slvM; rw [mkM_getD _ _ _ _ h]; rfl
theorem used_next {l : List Sh} {b i : Nat} (U : List Sh) (h : i < l.length) : usedM (slvM l b) (U ++ [((i : Int), (l.getD i (0, [])).2)]) = usedM (slvM l b) U ++ [mkRow b (rowB (inF (l.getD i (0, [])).1.toNat b))] := by
  rw [usedM_snoc]
  congr 2
  exact slvM_row h
theorem indU_yes {l : List Sh} {b i : Nat} (h : i < l.length) (hr : rankR (usedM (slvM l b) (indU l b i ++ [((i : Int), (l.getD i (0, [])).2)])) = (indU l b i).length + 1) : indU l b (i + 1) = indU l b i ++ [((i : Int), (l.getD i (0, [])).2)] := by
  have e : indU l b (i + 1) = indS (slvM l b) (indU l b i) ((dshL l).getD i (0, [])) := rfl
  have e2 : (dshL l).getD i (0, []) = ((i : Int), (l.getD i (0, [])).2) := by rw [List.getD_eq_getElem?_getD, dshL_get l i h]; rfl
  rw [e, e2, indS, if_pos hr]
theorem indU_no {l : List Sh} {b i : Nat} (h : i < l.length) (hr : rankR (usedM (slvM l b) (indU l b i ++ [((i : Int), (l.getD i (0, [])).2)])) ≠ (indU l b i).length + 1) : indU l b (i + 1) = indU l b i := by
  have e : indU l b (i + 1) = indS (slvM l b) (indU l b i) ((dshL l).getD i (0, [])) := rfl
  have e2 : (dshL l).getD i (0, []) = ((i : Int), (l.getD i (0, [])).2) := by rw [List.getD_eq_getElem?_getD, dshL_get l i h]; rfl
  rw [e, e2, indS, if_neg hr]
theorem used_good {l : List Sh} {b i : Nat} (hb1 : 1 ≤ b) (hb2 : b ≤ 12) (h : i < l.length) : goodM (usedM (slvM l b) (indU l b i ++ [((i : Int), (l.getD i (0, [])).2)])) = true := by
  have hin := indU_in l b i (by omega)
  have hle := (indU_rank l b hb1 hb2 i (by omega)).1
  have h2 : inL l (indU l b i ++ [((i : Int), (l.getD i (0, [])).2)]) := fun d hd => by
    rcases List.mem_append.1 hd with hd | hd
    · exact hin d hd
    · rw [List.mem_singleton] at hd; subst hd; exact ⟨by simp, by simpa using h⟩
  rw [usedM_mk h2]
  exact good_mkM _ _ _ (by simp) (by simp; omega) hb1 (by omega)
end G294
namespace Go.Proofs.YtbfchebnooanjaaDoor
open Go.RowKit G294

attribute [local irreducible] drF

/-- what l9First hands back -/
def RetFst (w : World) (L : Mat) (T : List (List UInt8)) (e : Ending) (w' : World) : Prop :=
  ∃ vm vs vd, e = .returned (.tuple #[.agg #[vm], vd]) ∧ OwnM 5 22 w' w.heap.size w'.heap.size vm L vs ∧ Seen w' vd (strs T) ∧ TurnIn 0 0 w w'

set_option maxRecDepth 100000 in
set_option maxHeartbeats 8000000 in
theorem l9First_own (v : Value) (l : List Sh) (b : Nat) (w : World) (hv : SeenH w v l) (hok : dropsOk l = true) (hb1 : 1 ≤ b) (hb2 : b ≤ 12) :
    Calls Tryd.prog 41 #[v, .int .i64 (b : Int)] w (RetFst w (usedM (slvM l b) (indD l b)) ((indD l b).map (·.2))) := by
  obtain ⟨h40, hall⟩ := dropsOk_len hok
  have HSD : Hid (∀ i no s, l[i]? = some (no, s) → ∃ sd : Nat, no = (sd : Int) ∧ sd ≤ 100000) := fun i no s h => by
    have h1 := List.mem_of_getElem? h
    have := hall _ h1
    exact ⟨no.toNat, by simp only at this; omega, by simp only at this; omega⟩
  have HNX : Hid (∀ i no s, l[i]? = some (no, s) → usedM (slvM l b) (indU l b i ++ [((i : Int), s)]) = usedM (slvM l b) (indU l b i) ++ [mkRow b (rowB (inF no.toNat b))]) := fun i no s h => by
    have h1 : i < l.length := (List.getElem?_eq_some_iff.1 h).1
    have e : l.getD i (0, []) = (no, s) := by simp [List.getD, h]
    have := used_next (b := b) (indU l b i) h1
    rwa [e] at this
  have HY : Hid (∀ i no s, l[i]? = some (no, s) → rankR (usedM (slvM l b) (indU l b i ++ [((i : Int), s)])) = (indU l b i).length + 1 → indU l b (i + 1) = indU l b i ++ [((i : Int), s)]) := fun i no s h => by
    have h1 : i < l.length := (List.getElem?_eq_some_iff.1 h).1
    have e : l.getD i (0, []) = (no, s) := by simp [List.getD, h]
    have := indU_yes (b := b) h1
    rwa [e] at this
  have HN : Hid (∀ i no s, l[i]? = some (no, s) → rankR (usedM (slvM l b) (indU l b i ++ [((i : Int), s)])) ≠ (indU l b i).length + 1 → indU l b (i + 1) = indU l b i) := fun i no s h => by
    have h1 : i < l.length := (List.getElem?_eq_some_iff.1 h).1
    have e : l.getD i (0, []) = (no, s) := by simp [List.getD, h]
    have := indU_no (b := b) h1
    rwa [e] at this
  have HGD : Hid (∀ i no s, l[i]? = some (no, s) → goodM (usedM (slvM l b) (indU l b i ++ [((i : Int), s)])) = true) := fun i no s h => by
    have h1 : i < l.length := (List.getElem?_eq_some_iff.1 h).1
    have e : l.getD i (0, []) = (no, s) := by simp [List.getD, h]
    have := used_good (l := l) (b := b) hb1 hb2 h1
    rwa [e] at this
  have HLE := Lib.hid (fun i (h : i ≤ l.length) => (indU_rank l b hb1 hb2 i h).1)
  have HOWN : Hid (∀ i, i ≤ l.length → ∀ x W, SeenM W x (usedM (slvM l b) (indU l b i)) → Calls Tryd.prog 66 #[.agg #[x]] W (RetMat 5 22 W (usedM (slvM l b) (indU l b i)))) := fun i hi x W hs => by
    have hl := (indU_rank l b hb1 hb2 i hi).1
    rw [usedM_mk (indU_in l b i hi)] at hs ⊢
    exact l2Own_own _ _ _ x W hs (by omega) (by omega) hb1
  have HUL := Lib.hid (fun (U : List Sh) => usedM_length (slvM l b) U)
  have HE : Hid (indU l b l.length = indD l b) := rfl
  have HU0 : Hid (indU l b 0 = []) := rfl
  have HM0 : Hid (usedM (slvM l b) [] = []) := rfl
  have HROW := Lib.hid (fun s W (hs : s ≤ 100000) => l9Row_own s b W hs hb1 hb2)
  unfold RetBytes at HROW
  unfold RetMat at HOWN
  obtain ⟨A, c, rfl, hlc, hcm, hx⟩ := hv
  have HX := Lib.hid hx
  clear hx hall hok
  rw [← HE.out]
  generalize hnn : l.length = n at *
  have HNN := Lib.hid hnn
  clear hnn HE
  generalize slvM l b = M at *
  generalize indU l b = UK at *
  unfold maxLen at hcm
  have k0 : TurnIn 0 0 w ((w.alloc (.cells #[.slice none 0 0] 67)).alloc (.cells #[.slice none 0 0] 67)) := turn_trans (turn_alloc _ _) (turn_alloc _ _) (by omega)
  have hz0 : ((w.alloc (.cells #[.slice none 0 0] 67)).alloc (.cells #[.slice none 0 0] 67)).heap.size = w.heap.size + 2 := by simp
  have hM0 : OwnM 5 22 ((w.alloc (.cells #[.slice none 0 0] 67)).alloc (.cells #[.slice none 0 0] 67)) (w.heap.size + 2) (w.heap.size + 2) (.slice none 0 0) (usedM M (UK 0)) [] := by
    rw [HU0.out, HM0.out]; exact hz0 ▸ OwnM.nil _ _ _ _
  have q2 : ((w.alloc (.cells #[.slice none 0 0] 67)).alloc (.cells #[.slice none 0 0] 67)).cell? ⟨w.heap.size + 1, 0, none⟩ = some (.slice none 0 0) := by simp
  have q1 : ((w.alloc (.cells #[.slice none 0 0] 67)).alloc (.cells #[.slice none 0 0] 67)).cell? ⟨w.heap.size, 0, none⟩ = some (.slice none 0 0) := by simp
  have q2f : ((w.alloc (.cells #[.slice none 0 0] 67)).alloc (.cells #[.slice none 0 0] 67)).frozen? ⟨w.heap.size + 1, 0, none⟩ = false := by simp
  have q1f : ((w.alloc (.cells #[.slice none 0 0] 67)).alloc (.cells #[.slice none 0 0] 67)).frozen? ⟨w.heap.size, 0, none⟩ = false := by simp
  have HD0 : Hid (((w.alloc (.cells #[.slice none 0 0] 67)).alloc (.cells #[.slice none 0 0] 67)).ownsRow (w.heap.size + 2) 9 1 (.slice none 0 0) (UK 0).length (strs ((UK 0).map (·.2)))) := by
    rw [HU0.out]; exact World.ownsRow_nil _ _ _ _
  go_enter Tryd.func41, Tryd.ntmps41
  go_wp2_with fail
  go_loopw [7, 14] (fun d i wr => ∃ (k : Nat) (o : Value) (vs : List Value), k ≤ n ∧ i = .int .i64 k ∧ Hid (wr.ownsRow (w.heap.size + 2) 9 1 d (UK k).length (strs ((UK k).map (·.2)))) ∧ Hid (OwnM 5 22 wr (w.heap.size + 2) wr.heap.size o (usedM M (UK k)) vs) ∧
      wr.cell? ⟨w.heap.size + 1, 0, none⟩ = some o ∧ wr.frozen? ⟨w.heap.size + 1, 0, none⟩ = false ∧ wr.cell? ⟨w.heap.size, 0, none⟩ = some (.slice none 0 0) ∧ wr.frozen? ⟨w.heap.size, 0, none⟩ = false ∧ Hid (Below w.heap.size w wr) ∧ w.heap.size + 2 ≤ wr.heap.size)
    (fun _ i _ => n - (intOf i).toNat)
  case atStart => exact ⟨0, .slice none 0 0, [], Nat.zero_le _, rfl, HD0, Lib.hid (hM0.wider (Nat.le_refl _) (by rw [hz0]; exact Nat.le_refl _) (Nat.le_refl _)), q2, q2f, q1, q1f, Lib.hid k0.to_below, by rw [hz0]; exact Nat.le_refl _⟩
  case round =>
    obtain ⟨k, o, vs, hk, rfl, HDT, HM, hcm, hfm, hcr, hfr, HB, hsz⟩ := hrel
    clear hM0 k0 q2 q2f q1 q1f HD0 hz0
    by_cases hlt : k < n
    · have hki : (k : Int) < (n : Int) := by omega
      obtain ⟨b0, off0, rfl, hbl, hcell⟩ := HX.out (by omega)
      obtain ⟨⟨no, s⟩, hks⟩ := at_lt HNN.out hlt
      obtain ⟨sd, rfl, hsd⟩ := HSD.out k no s hks
      have hc1 := (HB.out.cell (p := ⟨b0, off0 + k * 2, none⟩) hbl).trans (hcell k _ hks).1
      have hc2 := (HB.out.cell (p := ⟨b0, off0 + k * 2 + 1, none⟩) hbl).trans (hcell k _ hks).2
      simp only at hc1 hc2
      have HNXk := Lib.hid (HNX.out k _ _ hks)
      have HYk := Lib.hid (HY.out k _ _ hks)
      have HNk := Lib.hid (HN.out k _ _ hks)
      have HGk := Lib.hid (HGD.out k _ _ hks)
      have HLk := HLE.out k hk
      have HOk := Lib.hid (HOWN.out k hk)
      clear hcell hks
      rw [Int.toNat_natCast] at HNXk
      have k1 : TurnIn 0 0 wr (wr.alloc (.cells #[.int .i64 (sd : Int), .string (str s)] 84)) := turn_alloc _ _
      have z1 := World.size_alloc wr (.cells #[.int .i64 (sd : Int), .string (str s)] 84)
      have d0 := alloc_duo0 wr (.int .i64 (sd : Int)) (.string (str s)) 84
      have d1 := alloc_duo1 wr (.int .i64 (sd : Int)) (.string (str s)) 84
      have hcm1 := cell_turn k1 hcm (by omega)
      have hfm1 := frozen_turn k1 hfm (by omega)
      have HM1 := Lib.hid (HM.out.keep k1 (by omega))
      obtain ⟨Ao, no', co, rfl⟩ := HM.out.isSlice
      go_wp2_with fail
      refine (HOk.out _ _ HM1.out.seen).mono ?_
      rintro e w2 ⟨v2, vs2, rfl, hM2, k2⟩
      obtain ⟨An, cn, rfl⟩ := own_sliceN hM2.row
      rw [HUL.out] at hM2 ⊢
      generalize UK k = U at *
      generalize hzz : U.length = z at *
      have HZ := Lib.hid hzz
      clear hzz
      generalize hwA : wr.alloc (.cells #[.int .i64 (sd : Int), .string (str s)] 84) = wA at *
      clear hwA
      have s2 := k2.size
      have hrow2 : w2.ownsRow wA.heap.size 22 1 (.slice An z cn) z vs2 := by have h := hM2.row; rwa [HUL.out, HZ.out] at h
      have HM2 := Lib.hid hM2
      have HKA := Lib.hid k1
      have HK2 := Lib.hid k2
      have hne10 : (Value.slice An z cn).ownBlock ≠ some w2.heap.size := fun e => by have := (hrow2.lt _ e).2; omega
      have kB := turn_alloc w2 (.cells #[.slice An z cn] 67)
      have zB := World.size_alloc w2 (.cells #[.slice An z cn] 67)
      have c10 := alloc_cell w2 (.slice An z cn) 67
      have f10 : (w2.alloc (.cells #[.slice An z cn] 67)).frozen? ⟨w2.heap.size, 0, none⟩ = false := by simp
      have d1A := d1
      replace d0 := cell_turn kB (cell_turn k2 d0 (by omega)) (by omega)
      replace d1 := cell_turn kB (cell_turn k2 d1 (by omega)) (by omega)
      have HR := Lib.hid (hrow2.alloc (.cells #[.slice An z cn] 67))
      clear hM2 hrow2 k1 k2
      go_wp2_with fail
      generalize hwB : w2.alloc (.cells #[.slice An z cn] 67) = wB at *
      clear hwB
      have l10 : w2.heap.size < wB.heap.size := by omega
      have hlA : wr.heap.size < wB.heap.size := by omega
      go_cut [] from 20 to 28 (fun wx => ∃ A5 c5 v3, Hid (OwnM 5 22 wx wA.heap.size wx.heap.size (.slice A5 (z + 1) c5) (usedM M U ++ [mkRow b (rowB (inF sd b))]) (vs2 ++ [v3])) ∧ wx.cell? ⟨w2.heap.size, 0, none⟩ = some (.slice A5 (z + 1) c5) ∧ Hid (Below wA.heap.size wA wx) ∧ w2.heap.size < wx.heap.size)
      case first =>
        have HMB := Lib.hid (HM2.out.keep kB (by omega))
        go_region_law (first
          | (go_simp; go_at_call 67; go_must (refine (HROW.out sd _ hsd).mono ?_; rintro e w3 ⟨v3, rfl, o3, k3⟩; obtain ⟨A3, n3, c3, rfl⟩ := own_isSlice o3.1; replace k3 := undrew k3; have s3 := k3.size; have kP := turn_trans k3 (turn_alloc w3 (.cells #[.slice A3 n3 c3] 22)) (by omega); have zP := World.size_alloc w3 (.cells #[.slice A3 n3 c3] 22); have e10 := cell_turn k3 c10 l10; have e10a := cell_turn kP c10 l10))
          | (refine step_append1 (by rfl) _ _ _ (by rfl) wA.heap.size 22 _ _ Tryd.underlying65 infoRowB rfl _ z vs2 (by rfl) (owns_turn0 HR.out kP) w3.heap.size (.slice A3 n3 c3) (by rfl) (by simp) (by rfl) (by omega) (by omega) (by omega) ?_; intro v' w4 hown hg hv; obtain ⟨A5, c5, rfl⟩ := own_sliceN hown; have e11 := (cell_past kP hg hne10 l10 0).trans c10; have e11f := (frozen_past kP hg hne10 l10 0).trans f10))
        all_goals
          have hR3 : OwnBytes 5 (w3.alloc (.cells #[.slice A3 n3 c3] 22)) wB.heap.size w3.heap.size (.slice A3 n3 c3) (mkRow b (rowB (inF sd b))) := o3.keep (turn_alloc _ _) (by omega)
          have hM4 : OwnM 5 22 w4 wA.heap.size w4.heap.size (.slice A5 (z + 1) c5) (usedM M U ++ [mkRow b (rowB (inF sd b))]) (vs2 ++ [.slice A3 n3 c3]) := HMB.out.push kP hR3 (by omega) (by omega) (by rw [HUL.out, HZ.out]; exact hown) hg hv
          have hM5 := hM4.other (grown_set w2.heap.size 0 (.slice A5 (z + 1) c5)) (by rcases hv with e | e <;> rw [e]; exact hne10; simp; omega) (fun u hu e => by
            rcases List.mem_append.1 hu with h | h
            · have := HM2.out.rowBlock u h _ e; omega
            · rw [List.mem_singleton] at h; subst h; have := (hR3.1.lt _ e).1; omega)
          have e12 : (w4.setCell ⟨w2.heap.size, 0, none⟩ (.slice A5 (z + 1) c5)).cell? ⟨w2.heap.size, 0, none⟩ = some (.slice A5 (z + 1) c5) := World.cell?_setCell_same _ _ _ e11
          have hb5 : Below wA.heap.size wA (w4.setCell ⟨w2.heap.size, 0, none⟩ (.slice A5 (z + 1) c5)) := Below.setCell (p := ⟨w2.heap.size, 0, none⟩) (((HK2.out.to_below.trans (kB.to_below.mono s2)).trans (kP.to_below.mono (by omega))).grown hg (by omega) (fun g e => (HR.out.lt g e).1)) s2 _
          have s4 := hg.size
          have z5 : (w4.setCell ⟨w2.heap.size, 0, none⟩ (.slice A5 (z + 1) c5)).heap.size = w4.heap.size := by simp
          go_wp2_with fail
          go_meet
          exact ⟨A5, c5, .slice A3 n3 c3, Lib.hid (hM5.wider (Nat.le_refl _) (by omega) (Nat.le_refl _)), e12, Lib.hid hb5, by omega⟩
      case rest =>
        obtain ⟨A5, c5, v3, HM5, e12, HB5, l5⟩ := hcut
        clear c10 f10 d0 d1 HR hne10 HM1
        generalize wc = w7 at *
        have HSM : Hid (∀ W, Below w7.heap.size w7 W → SeenM W (.slice A5 (z + 1) c5) (usedM M (U ++ [((k : Int), s)]))) := fun W h => by rw [HNXk.out]; exact HM5.out.seen.touch (TurnIn.of_below h)
        have hS0 : Below w7.heap.size w7 w7.drew ∧ w7.drew.cell? ⟨w2.heap.size, 0, none⟩ = some (.slice A5 (z + 1) c5) := ⟨(Below.refl _ _).drew, e12⟩
        go_wp2_with fail
        go_cut [34] from 29 to 34 (fun s34 wx => s34 = .bool (((rankR (usedM M (U ++ [((k : Int), s)])) : Nat) : Int) == (z : Int) + 1) ∧ Below w7.heap.size w7 wx ∧ wx.cell? ⟨w2.heap.size, 0, none⟩ = some (.slice A5 (z + 1) c5))
        case first =>
          go_region_held3 (fun W => Below w7.heap.size w7 W ∧ W.cell? ⟨w2.heap.size, 0, none⟩ = some (.slice A5 (z + 1) c5))
            (first | exact hS0 | exact hS1 | assumption)
            ((go_at_call 68; refine (l2RankS_own _ _ _ (HSM.out _ (And.left (by assumption))) HGk.out).mono ?_; rintro e w6 ⟨rfl, k6⟩; have hS1 := sTurn (by assumption) l5 k6))
          all_goals
            go_wp2_with fail
            go_meet
            exact ⟨rfl, hS1⟩
        case rest =>
          obtain ⟨rfl, hBx, e13⟩ := hcut
          have s7 := HB5.out.size
          have s8 := hBx.size
          have HBx := Lib.hid (HB5.out.trans (hBx.mono s7))
          have HMx := Lib.hid (HM5.out.keep (TurnIn.of_below hBx) (by omega))
          have kx : TurnIn 0 0 wr wc := turn_trans HKA.out (TurnIn.of_below HBx.out) (by omega)
          have d1x := HBx.out.cell (p := ⟨wr.heap.size, 1, none⟩) (show wr.heap.size < wA.heap.size by omega)
          rw [d1A] at d1x
          have hcmx := cell_turn kx hcm (by omega)
          have hfmx := frozen_turn kx hfm (by omega)
          have hcrx := cell_turn kx hcr (by omega)
          have hfrx := frozen_turn kx hfr (by omega)
          have HDx := Lib.hid (owns_turn0 HDT.out kx)
          have HBw := Lib.hid (HB.out.trans (kx.to_below.mono HB.out.size))
          have sx := HBx.out.size
          have HMo := Lib.hid (HM.out.keep kx (by omega))
          have hne1 : u7.ownBlock ≠ some (w.heap.size + 1) := fun e => by have := (HDT.out.lt _ e).1; omega
          have hne0 : u7.ownBlock ≠ some w.heap.size := fun e => by have := (HDT.out.lt _ e).1; omega
          have HDL := Lib.hid (fun g e => (HDT.out.lt g e))
          clear hBx hc1 hc2 hcm hfm hcr hfr HDT HM HM5 HM2 HB e12 d1A hcm1 hfm1 HSM hS0
          generalize rankR (usedM M (U ++ [((k : Int), s)])) = rk at *
          by_cases hr : rk = z + 1
          · have e1 : ((rk : Int) == (z : Int) + 1) = true := by simp; omega
            have HK1 := Lib.hid (HYk.out hr)
            have HDs : Hid ((wc.setCell ⟨w.heap.size + 1, 0, none⟩ (.slice A5 (z + 1) c5)).ownsRow (w.heap.size + 2) 9 1 u7 z (strs (U.map (·.2)))) := Lib.hid (owns_turn2 HDx.out (fun g e => (HDx.out.lt g e).2) (turn_setCell wc (w.heap.size + 1) 0 (.slice A5 (z + 1) c5)) (by omega))
            have d1s : (wc.setCell ⟨w.heap.size + 1, 0, none⟩ (.slice A5 (z + 1) c5)).cell? ⟨wr.heap.size, 1, none⟩ = some (.string (str s)) := (cell_set_other wc _ _ _ (by omega)).trans d1x
            have hcs : (wc.setCell ⟨w.heap.size + 1, 0, none⟩ (.slice A5 (z + 1) c5)).cell? ⟨w.heap.size + 1, 0, none⟩ = some (.slice A5 (z + 1) c5) := World.cell?_setCell_same _ _ _ hcmx
            have hfs : (wc.setCell ⟨w.heap.size + 1, 0, none⟩ (.slice A5 (z + 1) c5)).frozen? ⟨w.heap.size + 1, 0, none⟩ = false := by simp [hfmx]
            have hcr2 : (wc.setCell ⟨w.heap.size + 1, 0, none⟩ (.slice A5 (z + 1) c5)).cell? ⟨w.heap.size, 0, none⟩ = some (.slice none 0 0) := (cell_set_other wc _ _ _ (by omega)).trans hcrx
            have hfr2 : (wc.setCell ⟨w.heap.size + 1, 0, none⟩ (.slice A5 (z + 1) c5)).frozen? ⟨w.heap.size, 0, none⟩ = false := (frozen_set_other wc _ _ _ (by omega)).trans hfrx
            have HMs := Lib.hid (HMx.out.keep (turn_setCell wc (w.heap.size + 1) 0 (.slice A5 (z + 1) c5)) (by omega))
            have HBs := Lib.hid (HBw.out.setCell (p := ⟨w.heap.size + 1, 0, none⟩) (Nat.le_succ _) (.slice A5 (z + 1) c5))
            have z8 : (wc.setCell ⟨w.heap.size + 1, 0, none⟩ (.slice A5 (z + 1) c5)).heap.size = wc.heap.size := by simp
            have q9 := alloc_cell (wc.setCell ⟨w.heap.size + 1, 0, none⟩ (.slice A5 (z + 1) c5)) (.string (str s)) 9
            rw [z8] at q9
            go_wp2_with (at_builtin; refine wpList_append1 rfl _ _ _ rfl (w.heap.size + 2) 9 _ _ Tryd.underlying35 infoStr rfl _ z _ rfl (HDs.out.alloc _) wc.heap.size (.string (str s)) rfl ?d1 rfl ?d2 ?d3 ?d4 ?_)
            case d1 => exact q9
            case d2 => omega
            case d3 => omega
            case d4 => first | omega | (simp; omega) | (rw [World.size_alloc, z8]; omega)
            intro v9 w9 hown9 hg9 hv9
            clear q9
            generalize wc.setCell ⟨w.heap.size + 1, 0, none⟩ (.slice A5 (z + 1) c5) = w8 at *
            have k8 := turn_alloc w8 (.cells #[.string (str s)] 9)
            have z9 := World.size_alloc w8 (.cells #[.string (str s)] 9)
            have s9 := hg9.size
            have k9 : TurnIn (w.heap.size + 2) wr.heap.size (w8.alloc (.cells #[.string (str s)] 9)) w9 := TurnIn.of_grown hg9 (fun g e => HDL.out g e)
            have hcm9 := (cell_past k8 hg9 hne1 (by omega) 0).trans hcs
            have hfm9 := (frozen_past k8 hg9 hne1 (by omega) 0).trans hfs
            have hcr9 := (cell_past k8 hg9 hne0 (by omega) 0).trans hcr2
            have hfr9 := (frozen_past k8 hg9 hne0 (by omega) 0).trans hfr2
            have HM9 : Hid (OwnM 5 22 w9 (w.heap.size + 2) w9.heap.size (.slice A5 (z + 1) c5) (usedM M (UK (k + 1))) (vs2 ++ [v3])) := by
              show OwnM _ _ _ _ _ _ _ _
              rw [HK1.out, HNXk.out]
              exact ((HMs.out.keep k8 (by omega)).keep k9 (by omega)).wider (by omega) (by omega) (Nat.le_refl _)
            have HD9 : Hid (w9.ownsRow (w.heap.size + 2) 9 1 v9 (UK (k + 1)).length (strs ((UK (k + 1)).map (·.2)))) := by
              show World.ownsRow _ _ _ _ _ _ _
              rw [HK1.out, List.length_append, HZ.out, List.map_append, strs_append]
              exact hown9
            have HB9 := Lib.hid ((HBs.out.alloc (by omega) (.cells #[.string (str s)] 9)).grown hg9 (by omega) (fun g e => by have := HDL.out _ e; omega))
            clear hown9 hg9 hv9 HMs HBs HDs hcs hfs hcr2 hfr2 d1s k8 k9
            go_wp2_with fail
            go_roundw
            case rel => exact ⟨k + 1, .slice A5 (z + 1) c5, vs2 ++ [v3], by omega, by go_num, HD9, HM9, hcm9, hfm9, hcr9, hfr9, HB9, by omega⟩
            case measure => simp [intOf]; omega
          · have e1 : ((rk : Int) == (z : Int) + 1) = false := by simp; omega
            have HK1 := Lib.hid (HNk.out hr)
            go_wp2_with fail
            go_roundw
            case rel => exact ⟨k + 1, .slice Ao no' co, vs, by omega, by go_num, by rw [HK1.out, HZ.out]; exact HDx, by rw [HK1.out]; exact Lib.hid (HMo.out.wider (Nat.le_refl _) (by omega) (Nat.le_refl _)), hcmx, hfmx, hcrx, hfrx, HBw, by omega⟩
            case measure => simp [intOf]; omega
    · obtain rfl : k = n := by omega
      have hki : ¬ (k : Int) < (k : Int) := by omega
      obtain ⟨Ao, no, co, rfl⟩ := HM.out.isSlice
      go_wp2_with fail
      refine bodyPost_ret (v := .tuple #[.agg #[.slice Ao no co], u7]) (by simp [results, Tryd.results41, go_sem, hcr]) rfl ?_
      have kk := turn_setCell wr w.heap.size 0 (.slice Ao no co)
      have hs3 := HDT.out
      exact ⟨_, vs, _, rfl, (HM.out.keep kk (by omega)).wider (by omega) (by simp) (by simp), (Seen.of_own (owns_turn2 HDT.out (fun g e => (HDT.out.lt g e).2) kk (by omega))), TurnIn.of_below (HB.out.setCell (Nat.le_refl _) _)⟩
end Go.Proofs.YtbfchebnooanjaaDoor

/- Valid shards: the program's goodShards, the model's l3Shards; the model's l3All. -/
namespace G294
open Go Go.RowKit
/-- the number of the last of the first k -/
def lastNo (l : List Sh) : Nat → Int
  | 0 => -1
  | k + 1 => (l.getD k (0, [])).1
/-- the numbers rise strictly from 0 on and stay below n -/
def risesN (n : Int) (l : List Sh) : Bool := (List.range l.length).all fun i => decide (lastNo l i < (l.getD i (0, [])).1 ∧ (l.getD i (0, [])).1 < n)
def shardsOk (l : List Sh) (n : Int) : Bool := risesN n l && textsOk (l.map (·.2))
theorem rises_at (n : Int) (l : List Sh) : risesN n l = true ↔ ∀ (i : Nat) (s : Sh), l[i]? = some s → lastNo l i < s.1 ∧ s.1 < n := by
  unfold risesN
  rw [List.all_eq_true]
  constructor
  · intro h i s hi
    have hl := (List.getElem?_eq_some_iff.1 hi).1
    have h3 := h i (List.mem_range.2 hl)
    rw [decide_eq_true_eq] at h3
    have e : l.getD i (0, []) = s := by simp [List.getD, hi]
    rw [e] at h3
    exact h3
  · intro h i hi
    have hl := List.mem_range.1 hi
    have e : l.getD i (0, []) = l[i] := by simp [List.getD, hl]
    rw [decide_eq_true_eq, e]
    exact h i l[i] (List.getElem?_eq_getElem hl)
theorem rises_false {n : Int} {l : List Sh} {i : Nat} {s : Sh} (hi : l[i]? = some s) (h : ¬ (lastNo l i < s.1 ∧ s.1 < n)) : risesN n l = false := by
  rw [Bool.eq_false_iff]
  intro ht
  exact h ((rises_at n l).1 ht i s hi)
theorem lastNo_succ {l : List Sh} {k : Nat} {s : Sh} (h : l[k]? = some s) : lastNo l (k + 1) = s.1 := by simp [lastNo, List.getD, h]
theorem all_ints (n : Nat) : (List.range (n + 1)).map (fun i : Nat => (i : Int)) = (List.range n).map (fun i : Nat => (i : Int)) ++ [(n : Int)] := by simp [List.range_succ]
end G294
namespace Go.Proofs.YtbfchebnooanjaaDoor
open Go.RowKit G294

set_option maxRecDepth 100000 in
set_option maxHeartbeats 2000000 in
theorem goodShards_any (v : Value) (l : List Sh) (m : Int) (w : World) (hv : SeenH w v l) (hn : l.length ≤ 1048576) : Calls Tryd.prog 79 #[v, .int .i64 m] w (RetBool w (shardsOk l m)) := by
  have HV := Lib.hid hv
  obtain ⟨A, c, rfl, hlc, hcm, hx⟩ := hv
  unfold maxLen at hcm
  generalize hnn : l.length = n at *
  have HN := Lib.hid hnn
  clear hnn
  go_enter Tryd.func79, Tryd.ntmps79
  go_wp2_with fail
  go_loopw [5, 10] (fun q i wr => ∃ (k : Nat) (la : Int), k ≤ n ∧ i = .int .i64 k ∧ q = .int .i64 la ∧ Hid (la = lastNo l k) ∧ Hid (∀ j s, l[j]? = some s → j < k → lastNo l j < s.1 ∧ s.1 < m) ∧ Below w.heap.size w wr)
    (fun _ i _ => n - (intOf i).toNat)
  case atStart => exact ⟨0, -1, Nat.zero_le _, rfl, rfl, Eq.refl (-1 : Int), (fun j s hj h => by omega), Below.refl _ _⟩
  case round =>
    obtain ⟨k, la, hk, rfl, rfl, HLA, HE, hb⟩ := hrel
    by_cases hlt : k < n
    · obtain ⟨b, off, rfl, hbl, hcell⟩ := hx (by omega)
      obtain ⟨⟨no, s⟩, hks⟩ := at_lt HN.out hlt
      have hc1 := (hb.cell (p := ⟨b, off + k * 2, none⟩) hbl).trans (hcell k _ hks).1
      have hc2 := (hb.cell (p := ⟨b, off + k * 2 + 1, none⟩) hbl).trans (hcell k _ hks).2
      simp only at hc1 hc2
      have hki : (k : Int) < (n : Int) := by omega
      have hb2 := hb.alloc hb.size (.cells #[.int .i64 no, .string (str s)] 27)
      have HLN : Hid (no = lastNo l (k + 1)) := (lastNo_succ hks).symm
      clear hcell hx
      by_cases h1 : la < no
      · have t1 : decide (no ≤ la) = false := by simp; omega
        by_cases h2 : no < m
        · have t2 : decide (m ≤ no) = false := by simp; omega
          have HK : Hid (∀ j s, l[j]? = some s → j < k + 1 → lastNo l j < s.1 ∧ s.1 < m) := fun j s' hj h => by
            rcases Nat.lt_or_ge j k with h' | h'
            · exact HE.out j s' hj h'
            · obtain rfl : j = k := by omega
              obtain rfl : (no, s) = s' := Option.some.inj (hks.symm.trans hj)
              rw [← HLA.out]; exact ⟨h1, h2⟩
          clear hks
          go_wp2_with fail
          go_roundw
          case rel => exact ⟨k + 1, no, by omega, by go_num, rfl, HLN, HK, hb2⟩
          case measure => simp [intOf]; omega
        · have t2 : decide (m ≤ no) = true := by simp; omega
          have HF : Hid (shardsOk l m = false) := by show shardsOk l m = false; rw [shardsOk, rises_false hks (by simp only; omega)]; rfl
          clear hks
          go_wp2_with fail
          go_ret
          exact ⟨by rw [HF.out]; rfl, TurnIn.of_below hb2⟩
      · have t1 : decide (no ≤ la) = true := by simp; omega
        have HF : Hid (shardsOk l m = false) := by show shardsOk l m = false; rw [shardsOk, rises_false hks (by rw [← HLA.out]; simp only; omega)]; rfl
        clear hks
        go_wp2_with fail
        go_ret
        exact ⟨by rw [HF.out]; rfl, TurnIn.of_below hb2⟩
    · obtain rfl : k = n := by omega
      have hki : ¬ (k : Int) < (k : Int) := by omega
      have HR : Hid (shardsOk l m = textsOk (l.map (·.2))) := by
        show _ = _
        rw [shardsOk, (rises_at m l).2 (fun j s hj => HE.out j s hj (by have := (List.getElem?_eq_some_iff.1 hj).1; rw [HN.out] at this; exact this))]; rfl
      have hbs := hb.size
      go_wp2_with fail
      refine (textsOf_own _ l _ (HV.out.below hb) (by rw [HN.out]; exact hn)).mono ?_
      rintro e w2 ⟨v2, rfl, hO, k2⟩
      have HO := Lib.hid hO
      clear hO
      go_wp2_with fail
      refine (equallyLong_any _ _ _ HO.out.seen).mono ?_
      rintro e w' ⟨rfl, rfl⟩
      go_wp2_with fail
      go_ret
      exact ⟨by rw [HR.out]; rfl, TurnIn.of_below (k2.base hb (by omega) (by omega))⟩

set_option maxRecDepth 100000 in
set_option maxHeartbeats 1000000 in
theorem l3All_own (n : Nat) (w : World) (hn : n ≤ 1000) : Calls Tryd.prog 86 #[.int .i64 n] w (RetInts 3 w ((List.range n).map fun i : Nat => (i : Int))) := by
  go_enter Tryd.func86, Tryd.ntmps86
  go_wp2_with fail
  go_loopw [3, 4] (fun o i wr => ∃ k : Nat, k ≤ n ∧ i = .int .i64 k ∧ wr.ownsRow w.heap.size 3 1 o k (ints ((List.range k).map fun i : Nat => (i : Int))) ∧ Below w.heap.size w wr)
    (fun _ i _ => n - (intOf i).toNat)
  case atStart => exact ⟨0, Nat.zero_le _, rfl, World.ownsRow_nil _ _ _ _, Below.refl _ _⟩
  case round =>
    obtain ⟨k, hk, rfl, hown, hb⟩ := hrel
    by_cases hlt : k < n
    · have hki : (k : Int) < (n : Int) := by omega
      have hbs := hb.size
      go_wp2_with (at_builtin; refine wpList_append1 rfl _ _ _ rfl w.heap.size 3 _ _ Tryd.underlying71 infoInt rfl _ k _ rfl (hown.alloc _) wr.heap.size (.int .i64 k) rfl ?c1 rfl ?c2 ?c3 ?c4 ?_)
      case c1 => simp
      case c2 => omega
      case c3 => omega
      case c4 => simp; omega
      intro v' w' hown' hg' _
      have hb' : Below w.heap.size w w' := below_append (hb.alloc hb.size _) (hown.alloc _) hg' (Nat.le_refl _) (by simp; omega)
      have hown2 : w'.ownsRow w.heap.size 3 1 v' (k + 1) (ints ((List.range (k + 1)).map fun i : Nat => (i : Int))) := by
        rw [all_ints, ints_append]; exact hown'
      clear hown' hg'
      go_wp2_with fail
      go_roundw
      case rel => exact ⟨k + 1, by omega, by go_num, hown2, hb'⟩
      case measure => simp [intOf]; omega
    · obtain rfl : k = n := by omega
      have hki : ¬ (k : Int) < (k : Int) := by omega
      go_wp2_with fail
      go_ret
      exact ⟨_, rfl, OwnInts.of_made (by simpa using hown), TurnIn.of_below hb⟩

end Go.Proofs.YtbfchebnooanjaaDoor

/- Valid shards: the model's l3Shards. -/
namespace G294
open Go Go.RowKit
/-- what is asked of shard i -/
def shAt (l : List Sh) (n : Int) (i : Nat) (s : Sh) : Prop := (lastNo l i < s.1 ∧ s.1 < n) ∧ s.2.length = (l.getD 0 (0, [])).2.length ∧ s.2.length ≤ 40
theorem shardsOk_iff (l : List Sh) (n : Int) : shardsOk l n = true ↔ ∀ (i : Nat) (s : Sh), l[i]? = some s → shAt l n i s := by
  unfold shardsOk shAt
  rw [Bool.and_eq_true, rises_at, textsOk_iff]
  have e0 : ((l.map (·.2)).getD 0 []).length = (l.getD 0 (0, [])).2.length := by cases l <;> simp
  rw [e0]
  constructor
  · rintro ⟨h1, h2⟩ i s hi
    obtain ⟨hl, rfl⟩ := List.getElem?_eq_some_iff.1 hi
    have := h2 i (by simpa using hl)
    exact ⟨h1 i _ hi, by simpa using this⟩
  · intro h
    refine ⟨fun i s hi => (h i s hi).1, fun i hi => ?_⟩
    have hl : i < l.length := by simpa using hi
    have := (h i l[i] (List.getElem?_eq_getElem hl)).2
    simpa using this
theorem shardsOk_false {l : List Sh} {n : Int} {i : Nat} {s : Sh} (hi : l[i]? = some s) (h : ¬ shAt l n i s) : shardsOk l n = false := by
  rw [Bool.eq_false_iff]
  intro ht
  exact h ((shardsOk_iff l n).1 ht i s hi)
end G294
namespace Go.Proofs.YtbfchebnooanjaaDoor
open Go.RowKit G294

set_option maxRecDepth 100000 in
set_option maxHeartbeats 4000000 in
theorem l3Shards_any (v : Value) (l : List Sh) (m : Int) (w : World) (hv : SeenH w v l) (hm : 0 ≤ m ∧ m ≤ 1000) : Calls Tryd.prog 59 #[v, .int .i64 m] w (RetBool w (shardsOk l m)) := by
  obtain ⟨A, c, rfl, hlc, hcm, hx⟩ := hv
  unfold maxLen at hcm
  generalize hnn : l.length = n at *
  have HN := Lib.hid hnn
  clear hnn
  go_enter Tryd.func59, Tryd.ntmps59
  go_wp2_with fail
  go_loopw [9] (fun i wr => ∃ k : Nat, k ≤ n ∧ i = .int .i64 k ∧ Hid (-1 ≤ lastNo l k) ∧ Hid (∀ (j : Nat) (s : Sh), l[j]? = some s → j < k → shAt l m j s) ∧ Below w.heap.size w wr)
    (fun i _ => n - (intOf i).toNat)
  case atStart => exact ⟨0, Nat.zero_le _, rfl, by show -1 ≤ lastNo l 0; simp [lastNo], (fun j s hj h => by omega), Below.refl _ _⟩
  case round =>
    obtain ⟨k, hk, rfl, HLA, HE, hb⟩ := hrel
    by_cases hlt : k < n
    · obtain ⟨b, off, rfl, hbl, hcell⟩ := hx (by omega)
      obtain ⟨⟨no, s⟩, hks⟩ := at_lt HN.out hlt
      obtain ⟨⟨no0, s0⟩, hk0⟩ := at_lt (k := 0) HN.out (by omega)
      have hc1 := (hb.cell (p := ⟨b, off + k * 2, none⟩) hbl).trans (hcell k _ hks).1
      have hc2 := (hb.cell (p := ⟨b, off + k * 2 + 1, none⟩) hbl).trans (hcell k _ hks).2
      have hc0 := (hb.cell (p := ⟨b, off + 0 * 2 + 1, none⟩) hbl).trans (hcell 0 _ hk0).2
      simp only [Nat.zero_mul, Nat.add_zero] at hc1 hc2 hc0
      have hki : (k : Int) < (n : Int) := by omega
      have hbs := hb.size
      have k1 := turn_alloc wr (.cells #[.int .i64 no, .string (str s)] 27)
      have hb2 := hb.alloc hb.size (.cells #[.int .i64 no, .string (str s)] 27)
      have d0 := cell_turn k1 hc0 (by omega)
      have x1 : (wr.alloc (.cells #[.int .i64 no, .string (str s)] 27)).cell? ⟨wr.heap.size, 0, none⟩ = some (.int .i64 no) := by simp
      have x2 : (wr.alloc (.cells #[.int .i64 no, .string (str s)] 27)).cell? ⟨wr.heap.size, 1, none⟩ = some (.string (str s)) := by simp
      have hz := str_size s
      have hz0 := str_size s0
      have HG0 : Hid ((l.getD 0 (0, [])).2.length = s0.length) := by show _ = _; simp [List.getD, hk0]
      have HKS := Lib.hid hks
      have hpj : ∀ j, k = j + 1 → ∃ pn : Int, pn = lastNo l k ∧ (wr.alloc (.cells #[.int .i64 no, .string (str s)] 27)).cell? ⟨b, off + j * 2, none⟩ = some (.int .i64 pn) := fun j hj => by
        obtain ⟨⟨pn, ps⟩, hjs⟩ := at_lt (k := j) HN.out (by omega)
        exact ⟨pn, by rw [hj, lastNo_succ hjs], cell_turn k1 ((hb.cell (p := ⟨b, off + j * 2, none⟩) hbl).trans (hcell j _ hjs).1) (by omega)⟩
      have HPJ := Lib.hid hpj
      clear hcell hx hks hk0 hpj hc0 k1
      by_cases hA : 0 ≤ no ∧ no ≤ m - 1
      · have HI : Hid (inB no 0 (m - 1) = true) := by show inB no 0 (m - 1) = true; simp [inB]; omega
        have HC := Lib.hid (fun W : World => HI.out ▸ l1In_any no 0 (m - 1) W)
        rcases Nat.eq_zero_or_pos k with hk0 | hkp
        · subst hk0
          simp only [Nat.zero_mul, Nat.add_zero] at hc1 hc2
          have t0 : decide ((0 : Int) < ((0 : Nat) : Int)) = false := by simp
          have HRI : Hid (lastNo l 0 < no ∧ no < m) := by show lastNo l 0 < no ∧ no < m; simp only [lastNo]; omega
          by_cases hC : s.length = s0.length
          · by_cases hD : s.length ≤ 40
            · have HK : Hid (∀ (jj : Nat) (s : Sh), l[jj]? = some s → jj < 0 + 1 → shAt l m jj s) := fun jj s' hj h => by
                rcases Nat.lt_or_ge jj (0) with h' | h'
                · exact HE.out jj s' hj h'
                · obtain rfl : jj = 0 := by omega
                  obtain rfl : (no, s) = s' := Option.some.inj (HKS.out.symm.trans hj)
                  exact ⟨HRI.out, by rw [HG0.out]; exact hC, hD⟩
              have HL2 : Hid (-1 ≤ lastNo l (0 + 1)) := by show -1 ≤ _; rw [lastNo_succ HKS.out]; show (-1 : Int) ≤ no; omega
              generalize s.length = z at *
              generalize s0.length = z0 at *
              subst hC
              have tC : ((z : Int) != (z : Int)) = false := by simp
              have tD : decide ((40 : Int) < (z : Int)) = false := by simp; omega
              have tD' : decide (40 < z) = false := by simp; omega
              go_wp2_with fail
              go_quiet ((go_at_call 29; exact quietly (HC.out _)))
              go_wp2_with fail
              go_roundw
              case rel => exact ⟨0 + 1, by omega, by go_num, HL2, HK, below_drewN hb2 _⟩
              case measure => simp [intOf]; omega
            · have HF : Hid (shardsOk l m = false) := shardsOk_false HKS.out (fun h => hD h.2.2)
              generalize s.length = z at *
              generalize s0.length = z0 at *
              subst hC
              have tC : ((z : Int) != (z : Int)) = false := by simp
              have tD : decide ((40 : Int) < (z : Int)) = true := by simp; omega
              have tD' : decide (40 < z) = true := by simp; omega
              go_wp2_with fail
              go_quiet ((go_at_call 29; exact quietly (HC.out _)))
              go_wp2_with fail
              go_ret
              exact ⟨by rw [HF.out]; rfl, TurnIn.of_below (below_drewN hb2 _)⟩
          · have HF : Hid (shardsOk l m = false) := shardsOk_false HKS.out (fun h => hC (by have h2 := h.2.1; rw [HG0.out] at h2; exact h2))
            generalize s.length = z at *
            generalize s0.length = z0 at *
            have tC : ((z : Int) != (z0 : Int)) = true := by simp; omega
            go_wp2_with fail
            go_quiet ((go_at_call 29; exact quietly (HC.out _)))
            go_wp2_with fail
            go_ret
            exact ⟨by rw [HF.out]; rfl, TurnIn.of_below (below_drewN hb2 _)⟩
        · obtain ⟨j, rfl⟩ : ∃ j, k = j + 1 := ⟨k - 1, by omega⟩
          obtain ⟨pn, hpn, hcp⟩ := HPJ.out j rfl
          have HPN := Lib.hid hpn
          clear hpn
          have tP : (0 : Int) < ((j + 1 : Nat) : Int) := by omega
          by_cases hB : pn < no
          · have tB : decide (no ≤ pn) = false := by simp; omega
            have HRI : Hid (lastNo l (j + 1) < no ∧ no < m) := by show lastNo l (j + 1) < no ∧ no < m; rw [← HPN.out]; omega
            by_cases hC : s.length = s0.length
            · by_cases hD : s.length ≤ 40
              · have HK : Hid (∀ (jj : Nat) (s : Sh), l[jj]? = some s → jj < j + 1 + 1 → shAt l m jj s) := fun jj s' hj h => by
                  rcases Nat.lt_or_ge jj (j + 1) with h' | h'
                  · exact HE.out jj s' hj h'
                  · obtain rfl : jj = j + 1 := by omega
                    obtain rfl : (no, s) = s' := Option.some.inj (HKS.out.symm.trans hj)
                    exact ⟨HRI.out, by rw [HG0.out]; exact hC, hD⟩
                have HL2 : Hid (-1 ≤ lastNo l (j + 1 + 1)) := by show -1 ≤ _; rw [lastNo_succ HKS.out]; show (-1 : Int) ≤ no; omega
                generalize s.length = z at *
                generalize s0.length = z0 at *
                subst hC
                have tC : ((z : Int) != (z : Int)) = false := by simp
                have tD : decide ((40 : Int) < (z : Int)) = false := by simp; omega
                have tD' : decide (40 < z) = false := by simp; omega
                go_wp2_with fail
                go_quiet ((go_at_call 29; exact quietly (HC.out _)))
                go_wp2_with fail
                go_roundw
                case rel => exact ⟨j + 1 + 1, by omega, by go_num, HL2, HK, below_drewN hb2 _⟩
                case measure => simp [intOf]; omega
              · have HF : Hid (shardsOk l m = false) := shardsOk_false HKS.out (fun h => hD h.2.2)
                generalize s.length = z at *
                generalize s0.length = z0 at *
                subst hC
                have tC : ((z : Int) != (z : Int)) = false := by simp
                have tD : decide ((40 : Int) < (z : Int)) = true := by simp; omega
                have tD' : decide (40 < z) = true := by simp; omega
                go_wp2_with fail
                go_quiet ((go_at_call 29; exact quietly (HC.out _)))
                go_wp2_with fail
                go_ret
                exact ⟨by rw [HF.out]; rfl, TurnIn.of_below (below_drewN hb2 _)⟩
            · have HF : Hid (shardsOk l m = false) := shardsOk_false HKS.out (fun h => hC (by have h2 := h.2.1; rw [HG0.out] at h2; exact h2))
              generalize s.length = z at *
              generalize s0.length = z0 at *
              have tC : ((z : Int) != (z0 : Int)) = true := by simp; omega
              go_wp2_with fail
              go_quiet ((go_at_call 29; exact quietly (HC.out _)))
              go_wp2_with fail
              go_ret
              exact ⟨by rw [HF.out]; rfl, TurnIn.of_below (below_drewN hb2 _)⟩
          · have tB : decide (no ≤ pn) = true := by simp; omega
            have HF : Hid (shardsOk l m = false) := shardsOk_false HKS.out (fun h => hB (by have h2 : lastNo l (j + 1) < no := h.1.1; rw [← HPN.out] at h2; exact h2))
            go_wp2_with fail
            go_quiet ((go_at_call 29; exact quietly (HC.out _)))
            go_wp2_with fail
            go_ret
            exact ⟨by rw [HF.out]; rfl, TurnIn.of_below (below_drewN hb2 _)⟩
      · have HI : Hid (inB no 0 (m - 1) = false) := by show inB no 0 (m - 1) = false; simp [inB]; omega
        have HC := Lib.hid (fun W : World => HI.out ▸ l1In_any no 0 (m - 1) W)
        have HF : Hid (shardsOk l m = false) := by
          show shardsOk l m = false
          refine shardsOk_false HKS.out (fun h => ?_)
          have h1 : lastNo l k < no ∧ no < m := h.1
          have h2 := HLA.out
          omega
        go_wp2_with fail
        go_quiet ((go_at_call 29; exact quietly (HC.out _)))
        go_wp2_with fail
        go_ret
        exact ⟨by rw [HF.out]; rfl, TurnIn.of_below (below_drewN hb2 _)⟩
    · obtain rfl : k = n := by omega
      have hki : ¬ (k : Int) < (k : Int) := by omega
      have HF : Hid (shardsOk l m = true) := (shardsOk_iff l m).2 fun j s hj => HE.out j s hj (by have := (List.getElem?_eq_some_iff.1 hj).1; rw [HN.out] at this; exact this)
      go_wp2_with fail
      go_ret
      exact ⟨by rw [HF.out]; rfl, TurnIn.of_below hb⟩

end Go.Proofs.YtbfchebnooanjaaDoor
