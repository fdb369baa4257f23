/- Joined texts: ErrW9, Dist, ErrW5, ErrIs, ErrW6, FieldOps, Elim. -/
import Derived.Test.YtblfobbeojdihaaGreatDoorBd06
import Derived.Laws.CopyOwn
import Derived.Test.YtblfobbeojdihaaGreatDoorBd01
import Derived.Test.YtblfobbeojdihaaGreatDoorBd02
import Derived.Test.YtblfobbeojdihaaGreatDoorBd03
import Derived.Lib.Hide
import Derived.BigQuiet
import Derived.Test.YtblfobbeojdihaaGreatDoorBd05
import Derived.Test.YtblfobbeojdihaaGreatDoorProg
import Derived.WalkKit
import Derived.LaidEql
import Derived.Stop.Asserts
import Derived.RowKitTokens
import Derived.Test.YtblfobbeojdihaaGreatDoorBd04
import Derived.BigRegion
import Derived.StillTailTactics
set_option linter.unusedSimpArgs false
set_option linter.unusedVariables false
/- Chapter 8: EncodeWord: the program's. -/
namespace G294
open Go Go.RowKit
theorem own_splice {w : World} {E : TypeId} {base g n c : Nat} {xs : List Value} (h : w.ownsRow base E 1 (.slice (some ⟨g, 0, none⟩) n c) n xs) :
    ∃ cur : List Value, w.heap[g]? = some (.cells cur.toArray E (0, 0)) ∧ n ≤ cur.length ∧ base ≤ g ∧ ∀ (w' : World) (cs : List Value), cs.length ≤ n → w'.heap[g]? = some (.cells (splice cur 0 cs).toArray E (0, 0)) → w'.ownsRow base E 1 (.slice (some ⟨g, 0, none⟩) n c) n (cs ++ xs.drop cs.length) := by
  have hl := h.1
  rcases h.2 with ⟨hh, _⟩ | ⟨g', cap, cur, e, hbg, hg, hnc, hcm, hcs, ht⟩
  · simp at hh
  · simp only [Value.slice.injEq, Option.some.injEq, Addr.mk.injEq, and_true, true_and] at e
    obtain ⟨rfl, rfl⟩ := e
    refine ⟨cur.toList, by simpa using hg, by simp; omega, hbg, fun w' cs hc hw => ?_⟩
    refine ⟨by rw [List.length_append, List.length_drop]; omega, .inr ⟨g, c, _, rfl, hbg, hw, hnc, hcm, ?_, ?_⟩⟩
    · rw [List.size_toArray, length_splice _ _ _ (by simp; omega)]; simpa using hcs
    · rw [Nat.mul_one] at ht ⊢
      show (splice cur.toList 0 cs).take n = _
      unfold splice
      rw [← ht, List.take_zero, List.nil_append, Nat.zero_add, List.take_append, List.take_of_length_le hc, List.drop_take]
end G294
namespace Go.Proofs.YtblfobbeojdihaaGreatDoor
open Go.RowKit G294

theorem sizeByteE : (Tryz.prog.info? 5).map (·.size) = some 1 := by kernel_rfl

set_option maxRecDepth 100000 in
set_option maxHeartbeats 4000000 in
theorem encodeWord_own (v : Value) (l : List UInt8) (t : Int) (w : World) (hv : Seen w v (bys l)) (hl20 : l.length ≤ 1048576) (ht : Tab w) (h0 : 3 < w.heap.size) : Calls Tryz.prog 6 #[v, .int .i64 t] w (RetBytesOk 5 w (encR8 l t) (encOk8 l t)) := by
  have HV := Lib.hid hv
  have HT : Hid (∀ W, Below w.heap.size w W → Tab W ∧ 3 < W.heap.size) := fun W h => ⟨ht.below h h0, by have := h.size; omega⟩
  have HGO := Lib.hid (generatorOf_own t w ht h0)
  obtain ⟨A, c, rfl, hlc, hcm, hx⟩ := hv
  rw [bys_length] at hlc HV hx
  simp only [bys_length]
  unfold maxLen at hcm
  clear ht
  have HNO : Hid (encOk8 l t = false → encR8 l t = []) := fun h => if_neg (by rw [h]; simp)
  have HYES : Hid (encOk8 l t = true → encR8 l t = encL8 l (2 * t.toNat)) := fun h => if_pos h
  by_cases he : errT t = true
  · have HE := Lib.hid he
    obtain ⟨m, rfl, h1, h4⟩ := errT_b he
    have HF : Hid (encOk8 l (m : Int) = sizB m (2 * m + l.length)) := encOk8_b h1 h4
    have HGR : Hid (genR (m : Int) = genL (2 * m)) := by show _ = _; unfold genR; rw [if_pos he]; simp
    have HCC := Lib.hid (fun W : World => checkCount_any m W (by omega))
    obtain ⟨k, hk⟩ : ∃ k, k = 2 * m := ⟨_, rfl⟩
    rw [← hk] at HF HGR HCC
    have hk2 : 2 ≤ k := by omega
    have hk8 : k ≤ 8 := by omega
    have HYE : Hid (encOk8 l (m : Int) = true → encR8 l (m : Int) = leftL (zerosN k ++ l) (genL k) ++ l) := fun h => by
      rw [HYES.out h, encL8, Int.toNat_natCast, ← hk]
    have HSZ : Hid (∀ s, sizB m s = decide (k < s ∧ s ≤ 24)) := fun s => by rw [hk]; rfl
    have HGL : Hid ((genL k).length = k + 1) := genL_length k
    have HZL : Hid (bys (zerosN k) = List.replicate k (.int .u8 0) ∧ (zerosN k).length = k) := by
      show _ ∧ _
      exact ⟨by simp [zerosN, bys, List.map_replicate], by simp [zerosN]⟩
    clear he hk HYES
    generalize hnn : l.length = n at *
    have HN := Lib.hid hnn
    clear hnn
    obtain ⟨s, hs⟩ : ∃ s, s = k + n := ⟨_, rfl⟩
    have hwa : IntKind.i64.wrap ((k : Int) + (n : Int)) = (s : Int) := by rw [IntWalk.i64_in _ (by omega)]; omega
    have HGW : Hid (∀ W : World, Calls Tryz.prog 25 #[.int .i64 (s : Int), .int .i64 (m : Int)] W fun e w' => e = .returned (.bool (encOk8 l (m : Int))) ∧ W = w') := fun W => by
      rw [HF.out, ← hs]; exact goodWordSize_any s m W (by omega) (by omega)
    have hks : k + n = s := hs.symm
    clear hs
    go_enter Tryz.func6, Tryz.ntmps6
    go_wp2_with fail
    refine HGO.out.mono ?_
    rintro e w1 ⟨vg, rfl, og, k1⟩
    rw [HE.out, HGR.out] at *
    have hb1 := k1.to_below
    have z1 := k1.size
    clear k1
    go_wp2_with fail
    refine (HCC.out _).mono ?_
    rintro e w' ⟨rfl, rfl⟩
    go_wp2_with fail
    refine (HGW.out _).mono ?_
    rintro e w' ⟨rfl, rfl⟩
    by_cases hok : encOk8 l (m : Int) = true
    · have HO := Lib.hid hok
      have hsb : k < s ∧ s ≤ 24 := by
        have := hok
        rw [HF.out, show k + n = s from hks, HSZ.out, decide_eq_true_eq] at this
        exact this
      obtain ⟨hs1, hs2⟩ := hsb
      have hn1 : 1 ≤ n := by omega
      rw [HO.out]
      clear hok
      obtain ⟨b, off, rfl, hbl, hcell⟩ := hx (by omega)
      have HX := Lib.hid hcell
      clear hx hcell
      obtain ⟨i0, hi0, hz0, hz1, hz2⟩ := info_parts infoByte
      go_wp2_with fail
      refine (HCC.out _).mono ?_
      rintro e w' ⟨rfl, rfl⟩
      go_wp2_with (at_make; refine wpList_make_full _ rfl _ _ _ rfl w1.heap.size _ i0 _ 1 Tryz.underlying22 hi0 hz0 hz1 _ _ _ _ k rfl rfl rfl rfl ?b2 ?b3 ?b4 ?_)
      case b2 => rw [hz2]; omega
      case b3 => unfold maxLen; omega
      case b4 => exact Nat.le_refl _
      intro w2 hown2 hg2
      have t2 : TurnIn 0 0 w1 w2 := TurnIn.of_below (below_of_grown hg2 (Nat.le_refl _) (by simp))
      have z2 := t2.size
      rw [toList_madeCells_one, ← HZL.out.1] at hown2
      have HSE : Hid (Seen w2 (.slice (some ⟨w1.heap.size, 0, none⟩) k k) (bys (zerosN k))) := Seen.of_own hown2
      replace og := og.keep t2 (by omega)
      have hb2 := t2.base hb1 z1 (by omega)
      clear hown2 hg2 t2
      have ka := turn_alloc w2 (.cells #[.slice (some ⟨w1.heap.size, 0, none⟩) k k, .slice (some ⟨b, off, none⟩) n c] 22)
      have za := World.size_alloc w2 (.cells #[.slice (some ⟨w1.heap.size, 0, none⟩) k k, .slice (some ⟨b, off, none⟩) n c] 22)
      have HCO := Lib.hid (concatB_own (.slice (some ⟨w1.heap.size, 0, none⟩) k k) (.slice (some ⟨b, off, none⟩) n c) (zerosN k) l w2.heap.size (w2.alloc (.cells #[.slice (some ⟨w1.heap.size, 0, none⟩) k k, .slice (some ⟨b, off, none⟩) n c] 22)) (by rw [za]; omega) (by simp) (by simp) (HSE.out.touch ka) ((HV.out.below hb2).touch ka) (by rw [HZL.out.2]; omega) (by rw [HZL.out.2]; omega) (by rw [HN.out]; omega) (by rw [HN.out]; omega))
      replace og := og.keep ka (by omega)
      have hb3 := ka.base hb2 (by omega) (by omega)
      clear ka
      go_wp2_with fail
      refine HCO.out.mono ?_
      rintro e w4 ⟨v4, rfl, o4, k4⟩
      have z4 := k4.size
      rw [za] at z4
      replace og := og.keep k4 (by omega)
      have hb4 := k4.base hb3 (by omega) (by omega)
      have HZN : Hid ((zerosN k ++ l).length = s) := by show _ = _; rw [List.length_append, HZL.out.2, HN.out]; omega
      obtain ⟨g, cp, rfl, hg1, hg2, hcp1, hcp2⟩ := o4.slice (by rw [HZN.out]; omega)
      rw [HZN.out] at hcp1 ⊢
      rw [za] at hg1
      unfold maxLen at hcp2
      have HRB := Lib.hid (remainderBy_own (.slice (some ⟨g, 0, none⟩) s cp) vg (zerosN k ++ l) (genL k) w4 (by have := o4.seen; rwa [HZN.out] at this) og.seen (by rw [HGL.out]; omega) (by rw [HGL.out, HZN.out]; omega) (by rw [HZN.out]; omega) (HT.out w4 hb4).1 (HT.out w4 hb4).2)
      have o4' := o4.1
      rw [HZN.out] at o4'
      clear og k4 o4
      go_wp2_with fail
      refine HRB.out.mono ?_
      rintro e w5 ⟨v5, rfl, o5, k5⟩
      have z5 := k5.size
      have hb5 := k5.base hb4 (by omega) (by omega)
      have o4w := owns_turn o4' (fun g e => (o4'.lt g e).2) k5 (by omega)
      have HLL : Hid ((leftL (zerosN k ++ l) (genL k)).length = k) := by show _ = _; rw [leftL_length, HGL.out, Nat.add_sub_cancel]
      obtain ⟨g5, off5, cp5, rfl, hg5, hcm5, hcell5⟩ := seen_cellsB o5.seen (by rw [HLL.out]; omega)
      have HC5 := Lib.hid (hcell5 w5 (Below.refl _ _))
      rw [HLL.out]
      clear hcell5
      obtain ⟨cur, hcur, hcl, hbg, hafter⟩ := own_splice o4w
      have HCUR := Lib.hid hcur
      have HAF := Lib.hid hafter
      have HBL : Hid ((bys (leftL (zerosN k ++ l) (genL k))).length = k) := by show _ = _; rw [bys_length]; exact HLL.out
      clear o4' o5 k5 o4w hcur hafter
      go_wp2_with (refine wpList_copy_splice rfl _ _ _ _ rfl 5 Tryz.underlying22 sizeByteE _ _ _ _ _ _ rfl rfl g 0 cur 5 HCUR.out (bys (leftL (zerosN k ++ l) (genL k))) ?c1 ?c2 ?c3 (fun y hy => bys_one y _ hy) w.heap.size w hb5 (by omega) ?_)
      case c1 => rw [HBL.out]; show k = min k s; omega
      case c2 => exact fun _ j y hj => by have := HC5.out j y hj; rwa [Addr.add_lit] at this
      case c3 => rw [HBL.out]; omega
      intro w6 hg6 hb6
      have ho6 := HAF.out w6 _ (by rw [HBL.out]; omega) hg6.out
      have hdrop : (bys (zerosN k ++ l)).drop (bys (leftL (zerosN k ++ l) (genL k))).length = bys l := by
        rw [HBL.out, bys_append, List.drop_left' (by rw [bys_length]; exact HZL.out.2)]
      rw [hdrop, ← bys_append] at ho6
      have HO6 := Lib.hid ho6
      have HLE : Hid ((leftL (zerosN k ++ l) (genL k) ++ l).length = s) := by show _ = _; rw [List.length_append, HLL.out, HN.out]; omega
      clear ho6 hdrop hg6
      go_wp2_with fail
      go_ret2
      refine ⟨_, by rw [HO.out]; rfl, ?_, TurnIn.of_below hb6⟩
      rw [HYE.out HO.out]
      refine OwnBytes.of_made (w := w) ?_
      rw [HLE.out]; exact own_base HO6.out (by omega)
    · have HO : Hid (encOk8 l (m : Int) = false) := by show _ = _; simpa using hok
      rw [HO.out]
      clear hok
      go_wp2_with fail
      go_ret2
      exact ⟨.slice none 0 0, by rw [HO.out]; rfl, by rw [HNO.out HO.out]; exact OwnBytes.nil _ _ _, TurnIn.of_below hb1⟩
  · have HE : Hid (errT t = false) := by show _ = _; simpa using he
    have HO : Hid (encOk8 l t = false) := encOk8_no HE.out
    clear he
    generalize hnn : l.length = n at *
    go_enter Tryz.func6, Tryz.ntmps6
    go_wp2_with fail
    refine HGO.out.mono ?_
    rintro e w1 ⟨vg, rfl, og, k1⟩
    rw [HE.out]
    go_wp2_with fail
    go_ret2
    exact ⟨.slice none 0 0, by rw [HO.out]; rfl, by rw [HNO.out HO.out]; exact OwnBytes.nil _ _ _, k1⟩

end Go.Proofs.YtblfobbeojdihaaGreatDoor

/- Chapter 8: DistanceOf: the program's and the model's. -/
namespace G294
open Go Go.RowKit
theorem u8_bne (x y : UInt8) : ((x.toNat : Int) != (y.toNat : Int)) = decide (x ≠ y) := by
  by_cases h : x = y
  · subst h; simp
  · have : x.toNat ≠ y.toNat := fun e => h (UInt8.toNat_inj.1 e)
    rw [show decide (x ≠ y) = true by simpa using h, bne_iff_ne]; omega
theorem distN_same {a b : List UInt8} {k : Nat} (h : a.getD k 0 = b.getD k 0) : distN a b (k + 1) = distN a b k := by simp [distN, ← List.getD_eq_getElem?_getD, h]
theorem distN_more {a b : List UInt8} {k : Nat} (h : a.getD k 0 ≠ b.getD k 0) : distN a b (k + 1) = distN a b k + 1 := by rw [distN, if_neg h]
end G294
namespace Go.Proofs.YtblfobbeojdihaaGreatDoor
open Go.RowKit G294

set_option maxHeartbeats 1000000 in
theorem differencesN_own (v u : Value) (a b : List UInt8) (w : World) (hv : Seen w v (bys a)) (hu : Seen w u (bys b)) (hl : a.length = b.length) (hn : a.length ≤ 1000000) : Calls Tryz.prog 41 #[v, u] w (RetInt w (distN a b a.length : Nat)) := by
  obtain ⟨A, c, rfl, hlc, hcm, hx⟩ := hv
  obtain ⟨A', c', rfl, hlc', hcm', hx'⟩ := hu
  rw [bys_length] at hlc hx hlc' hx'
  simp only [bys_length]
  unfold maxLen at hcm hcm'
  have HC1 : Hid (∀ k, k < a.length → (bys a)[k]? = some (.int .u8 ((a.getD k 0).toNat : Int))) := fun k hk => by rw [bys_get a k hk]; simp [List.getD, hk]
  have HC2 : Hid (∀ k, k < b.length → (bys b)[k]? = some (.int .u8 ((b.getD k 0).toNat : Int))) := fun k hk => by rw [bys_get b k hk]; simp [List.getD, hk]
  rw [← hl] at hx' HC2 hlc' ⊢
  generalize hnn : a.length = n at *
  have HX := Lib.hid hx
  have HX' := Lib.hid hx'
  clear hl hnn hx hx'
  go_enter Tryz.func41, Tryz.ntmps41
  go_wp2_with fail
  go_loopw [5, 9] (fun d i wr => ∃ k : Nat, k ≤ n ∧ i = .int .i64 k ∧ d = .int .i64 (distN a b k : Nat) ∧ Below w.heap.size w wr) (fun _ i _ => n - (intOf i).toNat)
  case atStart => exact ⟨0, Nat.zero_le _, rfl, rfl, Below.refl _ _⟩
  case round =>
    obtain ⟨k, hk, rfl, rfl, hb⟩ := hrel
    by_cases hlt : k < n
    · obtain ⟨p, off, rfl, hbl, hcell⟩ := HX.out (by omega)
      obtain ⟨p', off', rfl, hbl', hcell'⟩ := HX'.out (by omega)
      have hcx := (hb.cell (p := ⟨p, off + k, none⟩) hbl).trans (hcell k _ (HC1.out k hlt))
      have hcy := (hb.cell (p := ⟨p', off' + k, none⟩) hbl').trans (hcell' k _ (HC2.out k hlt))
      have hki : (k : Int) < (n : Int) := by omega
      have hle := distN_le a b k
      have hbb := u8_bne (a.getD k 0) (b.getD k 0)
      clear hcell hcell'
      by_cases hz : a.getD k 0 = b.getD k 0
      · rw [show decide (a.getD k 0 ≠ b.getD k 0) = false by simpa using hz] at hbb
        have HK := Lib.hid (distN_same hz)
        clear hz
        generalize distN a b k = z at *
        generalize a.getD k 0 = x at *
        generalize b.getD k 0 = y at *
        go_wp2_with fail
        go_quiet (fail)
        go_wp2_with fail
        go_roundw
        case rel => exact ⟨k + 1, by omega, by go_num, by rw [HK.out], below_drewN hb _⟩
        case measure => simp [intOf]; omega
      · rw [show decide (a.getD k 0 ≠ b.getD k 0) = true by simpa using hz] at hbb
        have HK := Lib.hid (distN_more hz)
        clear hz
        generalize distN a b k = z at *
        generalize a.getD k 0 = x at *
        generalize b.getD k 0 = y at *
        go_wp2_with fail
        go_quiet (fail)
        go_wp2_with fail
        go_roundw
        case rel => exact ⟨k + 1, by omega, by go_num, by rw [HK.out]; go_num, below_drewN hb _⟩
        case measure => simp [intOf]; omega
    · obtain rfl : k = n := by omega
      have hki : ¬ (k : Int) < (k : Int) := by omega
      go_wp2_with fail
      go_ret
      exact ⟨rfl, TurnIn.of_below hb⟩

set_option maxHeartbeats 1000000 in
theorem distanceOf_own (v u : Value) (a b : List UInt8) (w : World) (hv : Seen w v (bys a)) (hu : Seen w u (bys b)) : Calls Tryz.prog 13 #[v, u] w (RetIntOk w (distR a b) (distOk a b)) := by
  have HV := Lib.hid hv
  have HU := Lib.hid hu
  obtain ⟨A, c, hvv⟩ := hv.len
  obtain ⟨A', c', huu⟩ := hu.len
  rw [bys_length] at hvv huu
  subst hvv huu
  clear hv hu
  have HOK : Hid (distOk a b = decide (a.length = b.length ∧ a.length ≤ 24)) := rfl
  have HR : Hid (distOk a b = true → distR a b = (distN a b a.length : Int)) := fun h => if_pos h
  have HR0 : Hid (distOk a b = false → distR a b = 0) := fun h => if_neg (by rw [h]; simp)
  have HDF := Lib.hid (fun (hl : a.length = b.length) (hn : a.length ≤ 1000000) => differencesN_own _ _ a b w HV.out HU.out hl hn)
  generalize hnn : a.length = n at *
  generalize hmm : b.length = m at *
  clear hnn hmm
  by_cases h1 : n = m
  · subst h1
    have h1b : ((n : Int) != (n : Int)) = false := by simp
    by_cases h2 : n ≤ 24
    · have HF : Hid (distOk a b = true) := by show _ = _; rw [HOK.out]; simp [h2]
      have HD : Hid (distR a b = (distN a b n : Int)) := HR.out HF.out
      have h2i : ¬ (24 : Int) < (n : Int) := by omega
      have h2d : decide ((24 : Int) < (n : Int)) = false := by simpa using h2i
      have HDF2 := Lib.hid (HDF.out (by first | rfl | trivial) (by omega))
      go_enter Tryz.func13, Tryz.ntmps13
      go_wp2_with fail
      refine HDF2.out.mono ?_
      rintro e w1 ⟨rfl, k1⟩
      go_wp2_with fail
      go_ret2
      exact ⟨by rw [HD.out, HF.out]; rfl, k1⟩
    · have HF : Hid (distOk a b = false) := by show _ = _; rw [HOK.out]; simp [h2]
      have HD : Hid (distR a b = 0) := HR0.out HF.out
      have h2i : (24 : Int) < (n : Int) := by omega
      have h2d : decide ((24 : Int) < (n : Int)) = true := by simpa using h2i
      go_enter Tryz.func13, Tryz.ntmps13
      go_wp2_with fail
      go_ret2
      exact ⟨by rw [HD.out, HF.out]; rfl, TurnIn.refl _⟩
  · have HF : Hid (distOk a b = false) := by show _ = _; rw [HOK.out]; simp [h1]
    have HD : Hid (distR a b = 0) := HR0.out HF.out
    have h1b : ((n : Int) != (m : Int)) = true := by rw [bne_iff_ne]; omega
    go_enter Tryz.func13, Tryz.ntmps13
    go_wp2_with fail
    go_ret2
    exact ⟨by rw [HD.out, HF.out]; rfl, TurnIn.refl _⟩

end Go.Proofs.YtblfobbeojdihaaGreatDoor

/- Chapter 8: the model's syndromes, IsWord, DataOf. -/
namespace G294
open Go Go.RowKit
theorem zeroL_yes {l : List UInt8} (h : ∀ i, i < l.length → l.getD i 0 = 0) : zeroL l = true := by simpa only [zeroL, decide_eq_true_eq] using h
theorem zeroL_no {l : List UInt8} {k : Nat} (hk : k < l.length) (h : l.getD k 0 ≠ 0) : zeroL l = false := by
  rw [Bool.eq_false_iff]; intro e
  simp only [zeroL, decide_eq_true_eq] at e
  exact h (e k hk)
theorem isWR_fit {w : List UInt8} {t : Int} (h : isWR w t = true) : fitW w t = true := by
  simp only [isWR, Bool.and_eq_true] at h; exact h.1
theorem fitW_m {w : List UInt8} {t : Int} (h : fitW w t = true) : ∃ m : Nat, t = m ∧ 1 ≤ m ∧ m ≤ 4 ∧ 2 * m + 1 ≤ w.length ∧ w.length ≤ 24 ∧ errT t = true := by
  simp only [fitW, errT, Bool.and_eq_true, decide_eq_true_eq] at h
  refine ⟨t.toNat, by omega, by omega, by omega, by omega, by omega, ?_⟩
  simp only [errT, decide_eq_true_eq]; omega
/-- a part of a slice from n on -/
theorem Seen.dropB {w : World} {A : Option Addr} {c : Nat} {l : List UInt8} (h : Seen w (.slice A l.length c) (bys l)) {n : Nat} (hn : n < l.length) : ∃ b off, A = some ⟨b, off, none⟩ ∧ Seen w (.slice (some ⟨b, off + n, none⟩) (l.length - n) (c - n)) (bys (l.drop n)) := by
  obtain ⟨A', c', hv, hlc, hcm, hx⟩ := h
  simp only [Value.slice.injEq, bys_length] at hv hlc hx
  obtain ⟨rfl, _, rfl⟩ := hv
  obtain ⟨b, off, rfl, hb, hc⟩ := hx (by omega)
  refine ⟨b, off, rfl, _, c - n, by simp, by simp; omega, by omega, fun _ => ⟨b, off + n, rfl, hb, fun i u hu => ?_⟩⟩
  rw [Nat.add_assoc]
  refine hc (n + i) u ?_
  rw [← hu]
  simp [bys, List.getElem?_drop]
end G294
namespace Go.Proofs.YtblfobbeojdihaaGreatDoor
open Go.RowKit G294

set_option maxHeartbeats 1000000 in
theorem l8Fits_any (A : Option Addr) (l : List UInt8) (c : Nat) (t : Int) (w : World) (hl : l.length ≤ 9223372036854775807) : Calls Tryz.prog 42 #[.slice A l.length c, .int .i64 t] w fun e w' => e = .returned (.bool (fitW l t)) ∧ w = w' := by
  by_cases he : errT t = true
  · obtain ⟨m, rfl, h1, h4⟩ := errT_b he
    obtain ⟨n, hn⟩ : ∃ n, n = 2 * m := ⟨_, rfl⟩
    have hm2 : 2 * (m : Int) = (n : Int) := by omega
    have hn8 : n ≤ 8 := by omega
    have HE := Lib.hid he
    have HF : Hid (fitW l (m : Int) = inB l.length ((n : Int) + 1) 24) := by
      show _ = _
      rw [fitW_b h1 h4, inB, decide_eq_decide]; omega
    clear he hn
    rw [HF.out]
    generalize hll : l.length = q at *
    clear hll HF
    have HIN := Lib.hid (l1In_any (q : Int) ((n : Int) + 1) 24)
    generalize inB (q : Int) ((n : Int) + 1) 24 = z at *
    go_enter Tryz.func42, Tryz.ntmps42
    go_wp2_with fail
    refine (l8T_any _ _).mono ?_
    rintro e w' ⟨rfl, rfl⟩
    rw [HE.out]
    go_wp2_with fail
    refine (HIN.out _).mono ?_
    rintro e w' ⟨rfl, rfl⟩
    go_wp2_with fail
    go_ret
    exact ⟨rfl, rfl⟩
  · have HE : Hid (errT t = false) := by show _ = _; simpa using he
    have HF : Hid (fitW l t = false) := fitW_no HE.out
    clear he
    rw [HF.out]
    generalize hll : l.length = q at *
    clear hll
    go_enter Tryz.func42, Tryz.ntmps42
    go_wp2_with fail
    refine (l8T_any _ _).mono ?_
    rintro e w' ⟨rfl, rfl⟩
    rw [HE.out]
    go_wp2_with fail
    go_ret
    exact ⟨rfl, rfl⟩

set_option maxRecDepth 100000 in
set_option maxHeartbeats 4000000 in
theorem l8Syndromes_own (v : Value) (l : List UInt8) (m : Nat) (w : World) (hv : Seen w v (bys l)) (h1 : 1 ≤ m) (h4 : m ≤ 4) : Calls Tryz.prog 43 #[v, .int .i64 (m : Int)] w (RetBytes 5 w (synL l (2 * m))) := by
  obtain ⟨A, c, hvv⟩ := hv.len
  subst hvv
  obtain ⟨n, hn⟩ : ∃ n, n = 2 * m := ⟨_, rfl⟩
  have hm2 : 2 * (m : Int) = (n : Int) := by omega
  have hn8 : n ≤ 8 := by omega
  rw [← hn]
  clear hn
  have HV := Lib.hid hv
  clear hv
  have HML : Hid (∀ k (F : Nat → UInt8), (mkRow k F).length = k) := fun k F => by simp
  have HSY : Hid (∀ k, synL l k = mkRow k fun p => hor (powB 3 (p + 1)) l) := fun k => rfl
  generalize hll : (bys l).length = q at *
  clear hll
  go_enter Tryz.func43, Tryz.ntmps43
  go_wp2_with fail
  go_loopw [5, 6] (fun o i wr => ∃ k : Nat, k ≤ n ∧ i = .int .i64 ((k : Int) + 1) ∧ OwnBytes 5 wr w.heap.size wr.heap.size o (mkRow k fun p => hor (powB 3 (p + 1)) l) ∧ Below w.heap.size w wr)
    (fun _ i _ => n + 1 - (intOf i).toNat)
  case atStart => exact ⟨0, Nat.zero_le _, rfl, OwnBytes.nil _ _ _, Below.refl _ _⟩
  case round =>
    obtain ⟨k, hk, rfl, ho, hb⟩ := hrel
    by_cases hlt : k < n
    · have hki : (k : Int) + 1 ≤ (n : Int) := by omega
      have HP : Hid (Calls Tryz.prog 48 #[.int .u8 3, .int .i64 ((k : Int) + 1)] wr fun e w' => e = .returned (.int .u8 ((powB 3 (k + 1)).toNat : Int)) ∧ wr = w') := l1Pow3 (k + 1) wr (by omega)
      have HAT := Lib.hid (l7At_own _ l (powB 3 (k + 1)) wr (HV.out.below hb))
      have HO := Lib.hid ho
      have hsz := hb.size
      clear ho
      go_wp2_with fail
      refine HP.out.mono ?_
      rintro e w' ⟨rfl, rfl⟩
      go_wp2_with fail
      refine HAT.out.mono ?_
      rintro e w5 ⟨rfl, k5⟩
      have z5 := k5.size
      have ho5 := (HO.out.keep k5 (by omega)).1
      rw [HML.out] at ho5
      have hb5 := k5.base hb hsz (by omega)
      have HO5 := Lib.hid (ho5.alloc (.cells #[.int .u8 ((hor (powB 3 (k + 1)) l).toNat : Int)] 5))
      have HB5 : Hid (Below w.heap.size w (w5.alloc (.cells #[.int .u8 ((hor (powB 3 (k + 1)) l).toNat : Int)] 5))) := hb5.alloc (by omega) _
      clear ho5 HO
      go_wp2_with (at_builtin; refine wpList_append1 rfl _ _ _ rfl w.heap.size 5 _ _ Tryz.underlying22 infoByte rfl _ k _ rfl HO5.out w5.heap.size (.int .u8 ((hor (powB 3 (k + 1)) l).toNat : Int)) rfl ?c1 rfl ?c2 ?c3 ?c4 ?_)
      case c1 => simp
      case c2 => omega
      case c3 => omega
      case c4 => simp; omega
      intro v' w' hown' hg' _
      have hb' : Below w.heap.size w w' := below_append HB5.out HO5.out hg' (Nat.le_refl _) (by simp; omega)
      have hown2 : OwnBytes 5 w' w.heap.size w'.heap.size v' (mkRow (k + 1) fun p => hor (powB 3 (p + 1)) l) := by
        refine ⟨?_, Nat.le_refl _, fun g e => (hown'.lt g e).2⟩
        rw [HML.out, mkRow_succ, bys_append]; exact hown'
      clear hown' hg'
      go_wp2_with fail
      go_roundw
      case rel => exact ⟨k + 1, by omega, by go_num, hown2, hb'⟩
      case measure => simp [intOf]; omega
    · obtain rfl : k = n := by omega
      have hki : ¬ (k : Int) + 1 ≤ (k : Int) := by omega
      go_wp2_with fail
      go_ret
      exact ⟨_, rfl, by rw [HSY.out]; exact ho, TurnIn.of_below hb⟩

set_option maxHeartbeats 1000000 in
theorem l8Zero_any (v : Value) (l : List UInt8) (w : World) (hv : Seen w v (bys l)) : Calls Tryz.prog 44 #[v] w fun e w' => e = .returned (.bool (zeroL l)) ∧ w = w' := by
  obtain ⟨A, c, rfl, hlc, hcm, hx⟩ := hv
  rw [bys_length] at hlc hx
  simp only [bys_length]
  unfold maxLen at hcm
  generalize hnn : l.length = n at *
  have HN := Lib.hid hnn
  clear hnn
  go_enter Tryz.func44, Tryz.ntmps44
  go_wp2_with fail
  go_loop [7] (fun i => ∃ k : Nat, k ≤ n ∧ i = .int .i64 k ∧ Hid (∀ i, i < k → l.getD i 0 = 0)) (fun i => n - (intOf i).toNat)
  case atStart => exact ⟨0, Nat.zero_le _, rfl, fun i hi => by omega⟩
  case round =>
    obtain ⟨k, hk, rfl, HE⟩ := hrel
    by_cases hlt : k < n
    · obtain ⟨b, off, rfl, hbl, hcell⟩ := hx (by omega)
      have hkl : k < l.length := by rw [HN.out]; exact hlt
      have hcx : w.cell? ⟨b, off + k, none⟩ = some (.int .u8 ((l.getD k 0).toNat : Int)) := by
        have := hcell k _ (bys_get l k hkl)
        simpa [List.getD, hkl] using this
      have hki : (k : Int) < (n : Int) := by omega
      clear hcell hx
      by_cases hz : l.getD k 0 = 0
      · have hbb : (((l.getD k 0).toNat : Int) != 0) = false := by rw [hz]; rfl
        have HK : Hid (∀ i, i < k + 1 → l.getD i 0 = 0) := fun i hi => by
          rcases Nat.lt_or_ge i k with h | h
          · exact HE.out i h
          · rw [show i = k by omega]; exact hz
        clear hz
        generalize l.getD k 0 = x at *
        go_wp2_with fail
        go_round
        case rel => exact ⟨k + 1, by omega, by go_num, HK⟩
        case measure => simp [intOf]; omega
      · have hbb : (((l.getD k 0).toNat : Int) != 0) = true := by
          have : (l.getD k 0).toNat ≠ 0 := fun e => hz (UInt8.toNat_inj.1 e)
          rw [bne_iff_ne]; omega
        have HF : Hid (zeroL l = false) := zeroL_no hkl hz
        clear hz
        generalize l.getD k 0 = x at *
        go_wp2_with fail
        go_ret
        exact ⟨by rw [HF.out]; rfl, rfl⟩
    · obtain rfl : k = n := by omega
      have hki : ¬ (k : Int) < (k : Int) := by omega
      have HF : Hid (zeroL l = true) := zeroL_yes fun i hi => HE.out i (by rw [HN.out] at hi; exact hi)
      go_wp2_with fail
      go_ret
      exact ⟨by rw [HF.out]; rfl, rfl⟩

set_option maxHeartbeats 1000000 in
theorem sSyndromesOf_own (v : Value) (l : List UInt8) (t : Int) (w : World) (hv : Seen w v (bys l)) : Calls Tryz.prog 18 #[v, .int .i64 t] w (RetBytesOk 5 w (synR l t) (fitW l t)) := by
  have hv0 := hv
  obtain ⟨A, c, rfl, hlc, hcm, _⟩ := hv
  rw [bys_length] at hlc hv0
  simp only [bys_length]
  unfold maxLen at hcm
  have HV := Lib.hid hv0
  clear hv0
  have HFI := Lib.hid (fun W => l8Fits_any A l c t W (by omega))
  by_cases hf : fitW l t = true
  · obtain ⟨m, rfl, h1, h4, h5, h6, _⟩ := fitW_m hf
    have HR : Hid (synR l (m : Int) = synL l (2 * m)) := by show _ = _; rw [synR_yes hf]; simp
    have HF := Lib.hid hf
    have HS := Lib.hid (l8Syndromes_own _ l m w HV.out h1 h4)
    clear hf
    generalize hll : l.length = q at *
    clear hll
    go_enter Tryz.func18, Tryz.ntmps18
    go_wp2_with fail
    refine (HFI.out _).mono ?_
    rintro e w' ⟨rfl, rfl⟩
    rw [HF.out]
    go_wp2_with fail
    refine HS.out.mono ?_
    rintro e w1 ⟨v1, rfl, o1, k1⟩
    go_wp2_with fail
    go_ret2
    exact ⟨v1, by rw [HF.out]; rfl, by rw [HR.out]; exact o1, k1⟩
  · have HF : Hid (fitW l t = false) := by show _ = _; simpa using hf
    have HR : Hid (synR l t = []) := synR_no HF.out
    clear hf
    generalize hll : l.length = q at *
    clear hll
    go_enter Tryz.func18, Tryz.ntmps18
    go_wp2_with fail
    refine (HFI.out _).mono ?_
    rintro e w' ⟨rfl, rfl⟩
    rw [HF.out]
    go_wp2_with fail
    go_ret2
    exact ⟨.slice none 0 0, by rw [HF.out]; rfl, by rw [HR.out]; exact OwnBytes.nil _ _ _, TurnIn.refl _⟩

def RetBools (w : World) (a b : Bool) (e : Ending) (w' : World) : Prop := e = .returned (.tuple #[.bool a, .bool b]) ∧ TurnIn 0 0 w w'

end Go.Proofs.YtblfobbeojdihaaGreatDoor

/- errors.Is over the two sentinels and *wrongBytes. -/
namespace Go.Proofs.YtblfobbeojdihaaGreatDoor
open Go.RowKit Go.Extern.Stop Go.Stop Go.Extern

theorem isTypeOf (v : Value) (w : World) : (Extern.ReflectliteType.typeOf #[.iface 160 v]).run Tryz.prog w = .ok (.iface 128 (.agg #[.pointer (some ⟨4, 160, none⟩)])) w := by kernel_rfl

/-- the model's entry for Comparable -/
noncomputable def cmpF : Array Value → Sem Value := (Go.Extern.find Tryz.f142).getD (fun _ => pure (.bool false))

theorem cmpF_found : Go.Extern.find Tryz.f142 = some cmpF := by kernel_rfl

theorem isComparable (w : World) : (cmpF #[.agg #[.pointer (some ⟨4, 160, none⟩)]]).run Tryz.prog w = .ok (.bool true) w := by kernel_rfl

theorem isMethodComparable (v : Value) (w : World) : (Go.method 292 128 v "Comparable").run Tryz.prog w = .ok (142, v) w := by kernel_rfl

theorem isComp : (Tryz.prog.info? 160).map (·.comparable) = some true := by kernel_rfl

theorem isSize : (Tryz.prog.info? 181).map (·.size) = some 1 := by kernel_rfl

theorem noIsE (v : Value) (xT : TypeId) (w : World) : (Instr.typeAssert (.iface 160 v) xT 130 true).run Tryz.prog w = .ok (.tuple #[.nilIface, .bool false]) w := run_typeAssert_lacksB Tryz.underlying130 (by kernel_rfl) (by kernel_rfl) v xT w

theorem noUnwrapE (v : Value) (xT : TypeId) (w : World) : (Instr.typeAssert (.iface 160 v) xT 133 true).run Tryz.prog w = .ok (.tuple #[.nilIface, .bool false]) w := run_typeAssert_lacksB Tryz.underlying133 (by kernel_rfl) (by kernel_rfl) v xT w

theorem noUnwrapsE (v : Value) (xT : TypeId) (w : World) : (Instr.typeAssert (.iface 160 v) xT 135 true).run Tryz.prog w = .ok (.tuple #[.nilIface, .bool false]) w := run_typeAssert_lacksB Tryz.underlying135 (by kernel_rfl) (by kernel_rfl) v xT w

theorem noIsW (v : Value) (xT : TypeId) (w : World) : (Instr.typeAssert (.iface 56 v) xT 130 true).run Tryz.prog w = .ok (.tuple #[.nilIface, .bool false]) w := run_typeAssert_lacksB Tryz.underlying130 (by kernel_rfl) (by kernel_rfl) v xT w

theorem hasUnwrapW (v : Value) (xT : TypeId) (w : World) : (Instr.typeAssert (.iface 56 v) xT 133 true).run Tryz.prog w = .ok (.tuple #[.iface 56 v, .bool true]) w := run_typeAssert_hasB Tryz.underlying133 (by kernel_rfl) v xT w

theorem methodUnwrap (v : Value) (w : World) : (Go.method 292 56 v "Unwrap").run Tryz.prog w = .ok (133, v) w := by kernel_rfl

set_option maxHeartbeats 1000000 in
theorem unwrap_any (v : Value) (b : Addr) (w : World) (hg : w.cell? ⟨0, 0, none⟩ = some (.iface 160 (.pointer (some b)))) :
    Calls Tryz.prog 133 #[v] w fun e w' => e = .returned (.iface 160 (.pointer (some b))) ∧ w = w' := by
  go_enter Tryz.func133, Tryz.ntmps133
  go_wp2_with fail
  go_ret
  exact ⟨rfl, rfl⟩

set_option maxRecDepth 100000 in
set_option maxHeartbeats 4000000 in
/-- errors.Is of two different pointers to errors.errorString: neither has Is nor Unwrap -/
theorem is_other (a b : Addr) (ca cb : Array Value) (ta tb : TypeId) (w : World) (hne : a ≠ b) (ha : w.heap[a.block]? = some (.cells ca ta (0, 0))) (hb : w.heap[b.block]? = some (.cells cb tb (0, 0))) :
    Calls Tryz.prog 33 #[.iface 160 (.pointer (some a)), .iface 160 (.pointer (some b))] w fun e w' => e = .returned (.bool false) ∧ w = w' := by
  obtain ⟨i, hi, hcmp⟩ := Option.map_eq_some_iff.1 isComp
  obtain ⟨j, hj, hjs⟩ := Option.map_eq_some_iff.1 isSize
  have h8 := @run_callFunc_extern Tryz.prog 66 _ Extern.ReflectliteType.typeOf Tryz.func66 (by kernel_rfl) (by kernel_rfl) (by kernel_rfl) (by kernel_rfl)
  have h32 := @run_callFunc_extern Tryz.prog 142 _ cmpF Tryz.func142 (by kernel_rfl) (by kernel_rfl) (by kernel_rfl) cmpF_found
  have tT := isTypeOf
  have cT := isComparable
  have mR := isMethodComparable
  have nE := noIsE
  have uE := noUnwrapE
  have vE := noUnwrapsE
  have heq := run_eql_iface_ptr_other (P := Tryz.prog) w Tryz.underlying50 Tryz.underlying160 hi hcmp hj (by rw [hjs]; decide) hne ha hb
  go_enter Tryz.func33, Tryz.ntmps33
  go_wp2
  refine wp_loop_rounds 1 ?_
  rw [rounds_succ]
  go_wp2
  go_ret
  exact ⟨rfl, rfl⟩

set_option maxRecDepth 100000 in
set_option maxHeartbeats 4000000 in
/-- errors.Is of a *wrongBytes: one Unwrap, then equal -/
theorem is_wrong (p b : Addr) (w : World) (hg : w.cell? ⟨0, 0, none⟩ = some (.iface 160 (.pointer (some b)))) :
    Calls Tryz.prog 33 #[.iface 56 (.pointer (some p)), .iface 160 (.pointer (some b))] w fun e w' => e = .returned (.bool true) ∧ w = w' := by
  obtain ⟨i, hi, hcmp⟩ := Option.map_eq_some_iff.1 isComp
  obtain ⟨j, hj, hjs⟩ := Option.map_eq_some_iff.1 isSize
  have h8 := @run_callFunc_extern Tryz.prog 66 _ Extern.ReflectliteType.typeOf Tryz.func66 (by kernel_rfl) (by kernel_rfl) (by kernel_rfl) (by kernel_rfl)
  have h32 := @run_callFunc_extern Tryz.prog 142 _ cmpF Tryz.func142 (by kernel_rfl) (by kernel_rfl) (by kernel_rfl) cmpF_found
  have tT := isTypeOf
  have cT := isComparable
  have mR := isMethodComparable
  have nW := noIsW
  have uW := hasUnwrapW
  have mU := methodUnwrap
  have heq := run_eql_iface_ptr_same (P := Tryz.prog) w b Tryz.underlying50 Tryz.underlying160 hi hcmp hj
  have hty := run_eql_iface_types (P := Tryz.prog) 56 160 (.pointer (some p)) (.pointer (some b)) Tryz.underlying50 (by decide) w
  go_enter Tryz.func33, Tryz.ntmps33
  go_wp2
  refine wp_loop_rounds 2 ?_
  rw [rounds_succ]
  go_wp2
  rw [rounds_succ]
  go_wp2
  go_ret
  exact ⟨rfl, rfl⟩

end Go.Proofs.YtblfobbeojdihaaGreatDoor

/- Chapter 8: faultOf, DataOf and IsWord: the program's. -/
namespace Go.Proofs.YtblfobbeojdihaaGreatDoor
open Go.RowKit G294

set_option maxHeartbeats 400000 in
theorem fault1_any (x : UInt8) (w : World) : Calls Tryz.prog 65 #[.int .u8 (x.toNat : Int)] w fun e w' => e = .returned (.bool ((x.toNat : Int) != 0)) ∧ w = w' := by
  obtain ⟨b, hb⟩ : ∃ b, ((x.toNat : Int) != 0) = b := ⟨_, rfl⟩
  rw [hb]
  go_enter Tryz.func65, Tryz.ntmps65
  go_wp2_with fail
  go_ret
  exact ⟨rfl, rfl⟩

set_option maxHeartbeats 1000000 in
theorem indexFunc_any (v : Value) (l : List UInt8) (w : World) (hv : Seen w v (bys l)) : Calls Tryz.prog 91 #[v, .func (.func 65) #[] #[]] w fun e w' => (∃ r : Int, e = .returned (.int .i64 r) ∧ decide (0 ≤ r) = !zeroL l) ∧ w = w' := by
  obtain ⟨A, c, rfl, hlc, hcm, hx⟩ := hv
  rw [bys_length] at hlc hx
  simp only [bys_length]
  unfold maxLen at hcm
  generalize hnn : l.length = n at *
  have HN := Lib.hid hnn
  clear hnn
  have eg := enters_of Tryz.func65 (by kernel_rfl) rfl
  go_enter Tryz.func91, Tryz.ntmps91
  go_wp2_with fail
  go_loop [8] (fun i => ∃ k : Nat, k ≤ n ∧ i = .int .i64 k ∧ Hid (∀ i, i < k → l.getD i 0 = 0)) (fun i => n - (intOf i).toNat)
  case atStart => exact ⟨0, Nat.zero_le _, rfl, fun i hi => by omega⟩
  case round =>
    obtain ⟨k, hk, rfl, HE⟩ := hrel
    by_cases hlt : k < n
    · obtain ⟨b, off, rfl, hbl, hcell⟩ := hx (by omega)
      have hkl : k < l.length := by rw [HN.out]; exact hlt
      have hcx : w.cell? ⟨b, off + k, none⟩ = some (.int .u8 ((l.getD k 0).toNat : Int)) := by
        have := hcell k _ (bys_get l k hkl)
        simpa [List.getD, hkl] using this
      have hki : (k : Int) < (n : Int) := by omega
      clear hcell hx
      have HCF := Lib.hid (fault1_any (l.getD k 0) w)
      by_cases hz : l.getD k 0 = 0
      · have hbb : (((l.getD k 0).toNat : Int) != 0) = false := by rw [hz]; rfl
        have HK : Hid (∀ i, i < k + 1 → l.getD i 0 = 0) := fun i hi => by
          rcases Nat.lt_or_ge i k with h | h
          · exact HE.out i h
          · rw [show i = k by omega]; exact hz
        rw [hbb] at HCF
        clear hz hbb
        generalize l.getD k 0 = x at *
        go_wp2_with fail
        refine HCF.out.mono ?_
        rintro e w' ⟨rfl, rfl⟩
        go_wp2_with fail
        go_round
        case rel => exact ⟨k + 1, by omega, by go_num, HK⟩
        case measure => simp [intOf]; omega
      · have hbb : (((l.getD k 0).toNat : Int) != 0) = true := by
          have : (l.getD k 0).toNat ≠ 0 := fun e => hz (UInt8.toNat_inj.1 e)
          rw [bne_iff_ne]; omega
        have HF : Hid (zeroL l = false) := zeroL_no hkl hz
        rw [hbb] at HCF
        clear hz hbb
        generalize l.getD k 0 = x at *
        go_wp2_with fail
        refine HCF.out.mono ?_
        rintro e w' ⟨rfl, rfl⟩
        go_wp2_with fail
        go_ret
        exact ⟨⟨_, rfl, by rw [HF.out]; simp⟩, rfl⟩
    · obtain rfl : k = n := by omega
      have hki : ¬ (k : Int) < (k : Int) := by omega
      have HF : Hid (zeroL l = true) := zeroL_yes fun i hi => HE.out i (by rw [HN.out] at hi; exact hi)
      go_wp2_with fail
      go_ret
      exact ⟨⟨_, rfl, by rw [HF.out]; rfl⟩, rfl⟩

set_option maxHeartbeats 1000000 in
theorem containsFunc_any (v : Value) (l : List UInt8) (w : World) (hv : Seen w v (bys l)) : Calls Tryz.prog 64 #[v, .func (.func 65) #[] #[]] w fun e w' => e = .returned (.bool (!zeroL l)) ∧ w = w' := by
  have HC := Lib.hid (indexFunc_any v l w hv)
  obtain ⟨A, c, rfl, _⟩ := hv
  rw [bys_length] at HC ⊢
  generalize hll : l.length = q at *
  generalize zeroL l = z at *
  clear hll
  go_enter Tryz.func64, Tryz.ntmps64
  go_wp2_with fail
  refine HC.out.mono ?_
  rintro e w' ⟨⟨r, rfl, hr⟩, rfl⟩
  go_wp2_with fail
  go_ret
  exact ⟨rfl, rfl⟩

/-- what faultOf hands back: the sentinel at a0, nil, or a new *wrongBytes that holds the syndromes -/
def RetFault (w : World) (l : List UInt8) (t : Int) (a0 : Addr) (e : Ending) (w' : World) : Prop :=
  TurnIn 0 0 w w' ∧ ((fitW l t = false ∧ e = .returned (.iface 160 (.pointer (some a0)))) ∨ (fitW l t = true ∧ isWR l t = true ∧ e = .returned .nilIface) ∨
    (fitW l t = true ∧ isWR l t = false ∧ ∃ B sv, e = .returned (.iface 56 (.pointer (some ⟨B, 0, none⟩))) ∧ w.heap.size ≤ B ∧ B < w'.heap.size ∧ w'.cell? ⟨B, 0, none⟩ = some sv ∧ OwnBytes 5 w' w.heap.size B sv (synL l (2 * t.toNat))))

set_option maxRecDepth 100000 in
set_option maxHeartbeats 2000000 in
theorem faultOf_own (v : Value) (l : List UInt8) (t : Int) (a0 : Addr) (w : World) (hv : Seen w v (bys l)) (ht : Tab w) (h0 : 3 < w.heap.size) (s0 : w.cell? ⟨1, 0, none⟩ = some (.iface 160 (.pointer (some a0)))) (l0 : 1 < w.heap.size) :
    Calls Tryz.prog 32 #[v, .int .i64 t] w (RetFault w l t a0) := by
  have HS := Lib.hid (syndromesOf_own v l t w hv ht h0)
  obtain ⟨A, c, rfl, _⟩ := hv
  rw [bys_length] at HS ⊢
  generalize hll : l.length = q at *
  clear hll
  by_cases hf : fitW l t = true
  · have HR : Hid (synR l t = synL l (2 * t.toNat)) := synR_yes hf
    have HF := Lib.hid hf
    have HI : Hid (isWR l t = zeroL (synL l (2 * t.toNat))) := by show _ = _; simp [isWR, hf]
    clear hf
    go_enter Tryz.func32, Tryz.ntmps32
    go_wp2_with fail
    refine HS.out.mono ?_
    rintro e w1 ⟨v1, rfl, o1, k1⟩
    rw [HF.out]
    rw [HR.out] at o1
    obtain ⟨Y, ny, cy, hyy⟩ := own_isSlice o1.1
    have HC := Lib.hid (containsFunc_any v1 _ w1 o1.seen)
    subst hyy
    have HO := Lib.hid o1
    have z1 := k1.size
    clear o1
    by_cases hz : zeroL (synL l (2 * t.toNat)) = true
    · rw [hz] at HC
      have HZ : Hid (isWR l t = true) := HI.out.trans hz
      clear hz
      go_wp2_with fail
      refine HC.out.mono ?_
      rintro e w' ⟨rfl, rfl⟩
      go_wp2_with fail
      go_ret
      exact ⟨k1, .inr (.inl ⟨HF.out, HZ.out, rfl⟩)⟩
    · have hz' : zeroL (synL l (2 * t.toNat)) = false := by simpa using hz
      rw [hz'] at HC
      have HZ : Hid (isWR l t = false) := HI.out.trans hz'
      have ta := turn_alloc w1 (.cells #[.slice Y ny cy] 85)
      have HTA := Lib.hid (turn_trans k1 ta (by omega))
      have HO2 := Lib.hid (HO.out.keep ta (by omega))
      clear hz hz' ta
      go_wp2_with fail
      refine HC.out.mono ?_
      rintro e w' ⟨rfl, rfl⟩
      go_wp2_with fail
      go_ret
      exact ⟨HTA.out, .inr (.inr ⟨HF.out, HZ.out, w1.heap.size, .slice Y ny cy, rfl, z1, by simp, by simp, HO2.out⟩)⟩
  · have HF : Hid (fitW l t = false) := by show _ = _; simpa using hf
    clear hf
    go_enter Tryz.func32, Tryz.ntmps32
    go_wp2_with fail
    refine HS.out.mono ?_
    rintro e w1 ⟨v1, rfl, o1, k1⟩
    rw [HF.out]
    obtain ⟨Y, ny, cy, hyy⟩ := own_isSlice o1.1
    subst hyy
    clear o1
    have s1 := (k1.to_below.cell (p := ⟨1, 0, none⟩) l0).trans s0
    go_wp2_with fail
    go_ret
    exact ⟨k1, .inl ⟨HF.out, rfl⟩⟩

set_option maxRecDepth 100000 in
set_option maxHeartbeats 2000000 in
theorem dataOf_own (v : Value) (l : List UInt8) (t : Int) (a0 : Addr) (w : World) (hv : Seen w v (bys l)) (ht : Tab w) (h0 : 3 < w.heap.size) (s0 : w.cell? ⟨1, 0, none⟩ = some (.iface 160 (.pointer (some a0)))) (l0 : 1 < w.heap.size) :
    Calls Tryz.prog 10 #[v, .int .i64 t] w (RetBytesOk 5 w (dataR l t) (isWR l t)) := by
  have HFA := Lib.hid (faultOf_own v l t a0 w hv ht h0 s0 l0)
  have hv0 := hv
  obtain ⟨A, c, rfl, hlc, hcm, _⟩ := hv
  rw [bys_length] at HFA hv0 hlc ⊢
  unfold maxLen at hcm
  have HV := Lib.hid hv0
  clear hv0
  by_cases hz : isWR l t = true
  · have hf := isWR_fit hz
    obtain ⟨m, rfl, h1, h4, h5, h6, _⟩ := fitW_m hf
    obtain ⟨n, hn⟩ : ∃ n, n = 2 * m := ⟨_, rfl⟩
    have hn8 : n ≤ 8 := by omega
    have hnl : n < l.length := by omega
    have HR : Hid (dataR l (m : Int) = l.drop n) := by show _ = _; unfold dataR; rw [if_pos hz, hn]; simp
    have HZ := Lib.hid hz
    have HF := Lib.hid hf
    have HCC : Hid (∀ W : World, Calls Tryz.prog 26 #[.int .i64 (m : Int)] W fun e w' => e = .returned (.int .i64 (n : Int)) ∧ W = w') := fun W => by rw [hn]; exact checkCount_any m W (by omega)
    obtain ⟨b, off, rfl, hsd⟩ := HV.out.dropB (n := n) hnl
    have HD := Lib.hid hsd
    have HDL : Hid ((l.drop n).length = l.length - n) := by show _ = _; simp
    clear hz hf hn hsd
    generalize hll : l.length = q at *
    clear hll
    obtain ⟨d, hd⟩ : ∃ d, d = q - n := ⟨_, rfl⟩
    have hd1 : 1 ≤ d := by omega
    have hd24 : d ≤ 24 := by omega
    have hdq : q - n = d := hd.symm
    have hni : (n : Int) ≤ (q : Int) := by omega
    have hni2 : (q : Int) ≤ (c : Int) := by omega
    rw [← hd] at HD HDL
    clear hd
    go_enter Tryz.func10, Tryz.ntmps10
    go_wp2_with fail
    refine HFA.out.mono ?_
    rintro e w1 ⟨k1, ⟨hff, _⟩ | ⟨_, _, rfl⟩ | ⟨_, hzz, _⟩⟩
    · rw [HF.out] at hff; cases hff
    · have z1 := k1.size
      have HD1 := Lib.hid (HD.out.touch k1)
      go_wp2_with fail
      refine (HCC.out _).mono ?_
      rintro e w' ⟨rfl, rfl⟩
      go_wp2_with fail
      refine (cloneB_own _ (l.drop n) _ HD1.out (by rw [HDL.out]; exact hd1) (by rw [HDL.out]; omega)).mono ?_
      rintro e w2 ⟨v2, rfl, o2, k2⟩
      have kk := turn_trans k1 k2 (by omega)
      have o2' := o2.wider (lo' := w.heap.size) (hi' := w2.heap.size) z1 (Nat.le_refl _) (Nat.le_refl _)
      go_wp2_with fail
      go_ret2
      exact ⟨v2, by rw [HZ.out]; rfl, by rw [HR.out]; exact o2', kk⟩
    · rw [HZ.out] at hzz; cases hzz
  · have HZ : Hid (isWR l t = false) := by show _ = _; simpa using hz
    have HR : Hid (dataR l t = []) := if_neg hz
    clear hz
    generalize hll : l.length = q at *
    clear hll
    go_enter Tryz.func10, Tryz.ntmps10
    go_wp2_with fail
    refine HFA.out.mono ?_
    rintro e w1 ⟨k1, ⟨_, rfl⟩ | ⟨_, hzz, _⟩ | ⟨_, _, B, sv, rfl, _, _, _, _⟩⟩
    · go_wp2_with fail
      go_ret2
      exact ⟨.slice none 0 0, by rw [HZ.out]; rfl, by rw [HR.out]; exact ⟨World.ownsRow_nil _ _ _ _, Nat.le_refl _, fun g h => by simp [Value.ownBlock] at h⟩, k1⟩
    · rw [HZ.out] at hzz; cases hzz
    · go_wp2_with fail
      go_ret2
      exact ⟨.slice none 0 0, by rw [HZ.out]; rfl, by rw [HR.out]; exact ⟨World.ownsRow_nil _ _ _ _, Nat.le_refl _, fun g h => by simp [Value.ownBlock] at h⟩, k1⟩

/-- the two sentinels -/
structure Sen (w : World) (a0 a1 : Addr) : Prop where
  s0 : w.cell? ⟨1, 0, none⟩ = some (.iface 160 (.pointer (some a0)))
  s1 : w.cell? ⟨0, 0, none⟩ = some (.iface 160 (.pointer (some a1)))
  l0 : 1 < w.heap.size
  l1 : 0 < w.heap.size
  ne : a0 ≠ a1
  r0 : ∃ c t, w.heap[a0.block]? = some (.cells c t (0, 0))
  r1 : ∃ c t, w.heap[a1.block]? = some (.cells c t (0, 0))

theorem Sen.below {w w' : World} {a0 a1 : Addr} (h : Sen w a0 a1) (hb : Below w.heap.size w w') : Sen w' a0 a1 := by
  obtain ⟨c0, t0, h0⟩ := h.r0
  obtain ⟨c1, t1, h1⟩ := h.r1
  have hs := hb.size
  exact ⟨(hb.cell (p := ⟨1, 0, none⟩) h.l0).trans h.s0, (hb.cell (p := ⟨0, 0, none⟩) h.l1).trans h.s1, Nat.lt_of_lt_of_le h.l0 hs, Nat.lt_of_lt_of_le h.l1 hs, h.ne,
    ⟨c0, t0, (hb.block _ (Array.getElem?_eq_some_iff.1 h0).1).trans h0⟩, ⟨c1, t1, (hb.block _ (Array.getElem?_eq_some_iff.1 h1).1).trans h1⟩⟩

set_option maxRecDepth 100000 in
set_option maxHeartbeats 2000000 in
theorem isWord_own (v : Value) (l : List UInt8) (t : Int) (a0 a1 : Addr) (w : World) (hv : Seen w v (bys l)) (ht : Tab w) (h0 : 3 < w.heap.size) (hs : Sen w a0 a1) :
    Calls Tryz.prog 9 #[v, .int .i64 t] w (RetBools w (isWR l t) (fitW l t)) := by
  have HFA := Lib.hid (faultOf_own v l t a0 w hv ht h0 hs.s0 hs.l0)
  have HSE := Lib.hid hs
  obtain ⟨A, c, rfl, _⟩ := hv
  rw [bys_length] at HFA ⊢
  clear hs
  generalize hll : l.length = q at *
  clear hll
  go_enter Tryz.func9, Tryz.ntmps9
  go_wp2_with fail
  refine HFA.out.mono ?_
  rintro e w1 ⟨k1, ⟨hff, rfl⟩ | ⟨hff, hzz, rfl⟩ | ⟨hff, hzz, B, sv, rfl, _, _, _, _⟩⟩
  · have hse := HSE.out.below k1.to_below
    have hs1 := hse.s1
    obtain ⟨c0, t0, hr0⟩ := hse.r0
    obtain ⟨c1, t1, hr1⟩ := hse.r1
    have HCI := Lib.hid (fun n => is_other a0 a1 c0 c1 t0 t1 (w1.drewN n) hse.ne hr0 hr1)
    have HZ : Hid (isWR l t = false) := by show _ = _; simp [isWR, hff]
    have HF := Lib.hid hff
    clear hff hse hr0 hr1
    go_wp2_with fail
    go_quiet ((go_at_call 33; exact quietly (HCI.out _)))
    go_wp2_with fail
    go_ret2
    exact ⟨by rw [HZ.out, HF.out]; rfl, turn_trans k1 ⟨rfl, rfl, rfl, Nat.le_refl _, fun _ _ _ => rfl⟩ (by omega : (0 ≤ 0 ∧ 0 ≤ 0) ∨ w.heap.size ≤ 0 ∨ 0 = 0)⟩
  · have HZ := Lib.hid hzz
    have HF := Lib.hid hff
    clear hff hzz
    go_wp2_with fail
    go_quiet (fail)
    go_wp2_with fail
    go_ret2
    exact ⟨by rw [HZ.out, HF.out]; rfl, turn_trans k1 ⟨rfl, rfl, rfl, Nat.le_refl _, fun _ _ _ => rfl⟩ (by omega : (0 ≤ 0 ∧ 0 ≤ 0) ∨ w.heap.size ≤ 0 ∨ 0 = 0)⟩
  · have hse := HSE.out.below k1.to_below
    have hs1 := hse.s1
    have HCI := Lib.hid (fun n => is_wrong ⟨B, 0, none⟩ a1 (w1.drewN n) hs1)
    have HZ := Lib.hid hzz
    have HF := Lib.hid hff
    clear hff hzz hse
    go_wp2_with fail
    go_quiet ((go_at_call 33; exact quietly (HCI.out _)))
    go_wp2_with fail
    go_ret2
    exact ⟨by rw [HZ.out, HF.out]; rfl, turn_trans k1 ⟨rfl, rfl, rfl, Nat.le_refl _, fun _ _ _ => rfl⟩ (by omega : (0 ≤ 0 ∧ 0 ≤ 0) ∨ w.heap.size ≤ 0 ∨ 0 = 0)⟩

end Go.Proofs.YtblfobbeojdihaaGreatDoor

/- The methods of field bytes. -/
namespace Go.Proofs.YtblfobbeojdihaaGreatDoor
open Go.RowKit G294

set_option maxHeartbeats 400000 in
theorem fbTimes_any (a b : UInt8) (w : World) (ht : Tab w) :
    Calls Tryz.prog 139 #[.int .u8 (a.toNat : Int), .int .u8 (b.toNat : Int)] w fun e w' => e = .returned (.int .u8 ((gmul a b).toNat : Int)) ∧ w = w' := by
  go_enter Tryz.func139, Tryz.ntmps139
  go_wp2_with fail
  refine (times_u8 a b _ ht).mono ?_
  rintro e w' ⟨rfl, rfl⟩
  go_wp2_with fail
  go_ret
  exact ⟨rfl, rfl⟩

set_option maxHeartbeats 400000 in
theorem fbPlus_any (a b : UInt8) (w : World) :
    Calls Tryz.prog 138 #[.int .u8 (a.toNat : Int), .int .u8 (b.toNat : Int)] w fun e w' => e = .returned (.int .u8 ((a ^^^ b).toNat : Int)) ∧ w = w' := by
  have HX := Lib.hid (xor_u8 a b)
  go_enter Tryz.func138, Tryz.ntmps138
  go_wp2_with fail
  go_ret
  exact ⟨by rw [← HX.out]; rfl, rfl⟩

set_option maxHeartbeats 400000 in
theorem fbInverse_any (a : UInt8) (w : World) (ht : Tab w) :
    Calls Tryz.prog 137 #[.int .u8 (a.toNat : Int)] w fun e w' => e = .returned (.int .u8 ((ginv a).toNat : Int)) ∧ w = w' := by
  have HI := Lib.hid (ginv_toNat a)
  go_enter Tryz.func137, Tryz.ntmps137
  go_wp2_with fail
  refine (inverse_any a.toNat a.toNat_lt _ ht).mono ?_
  rintro e w' ⟨rfl, rfl⟩
  go_wp2_with fail
  go_ret
  exact ⟨by rw [HI.out]; rfl, rfl⟩

theorem methTimes (x : Int) (w : World) : (method 292 115 (.int .u8 x) "loop.example/g00294/impl.times").run Tryz.prog w = .ok (139, .int .u8 x) w := by kernel_rfl

theorem methPlus (x : Int) (w : World) : (method 292 115 (.int .u8 x) "loop.example/g00294/impl.plus").run Tryz.prog w = .ok (138, .int .u8 x) w := by kernel_rfl

theorem methInverse (x : Int) (w : World) : (method 292 115 (.int .u8 x) "loop.example/g00294/impl.inverse").run Tryz.prog w = .ok (137, .int .u8 x) w := by kernel_rfl
end Go.Proofs.YtblfobbeojdihaaGreatDoor

/- Elimination in place: pivotBelow, scaleRow, clearColumn, eliminate. -/
namespace Go.Proofs.YtblfobbeojdihaaGreatDoor
open Go.RowKit G294

def pivV (o : Option Nat) : Value := match o with
  | none => .tuple #[.int .i64 0, .bool false]
  | some k => .tuple #[.int .i64 k, .bool true]

set_option maxRecDepth 100000 in
set_option maxHeartbeats 1000000 in
theorem pivotBelow_any (r c a j : Nat) (F : Ents) (v : Value) (w : World) (hs : SeenM w v (mkM r c F)) (hr1 : 1 ≤ r) (hr : r ≤ 1000) (hc : c ≤ 1000) (ha : a ≤ r) (hj : j < c) :
    Calls Tryz.prog 110 #[v, .int .i64 a, .int .i64 j] w fun e w' => e = .returned (pivV (piv F r a j)) ∧ w = w' := by
  have HS := Lib.hid hs
  obtain ⟨A, cp, hvv, _, _⟩ := hs.len
  rw [mkM_length] at hvv
  subst hvv
  clear hs
  go_enter Tryz.func110, Tryz.ntmps110
  go_wp2_with fail
  go_loop [9] (fun i => ∃ k : Nat, a ≤ k ∧ k ≤ r ∧ i = .int .i64 k ∧ Hid (∀ i, a ≤ i → i < k → F i j = 0)) (fun i => r - (intOf i).toNat)
  case atStart => exact ⟨a, Nat.le_refl _, ha, rfl, fun i h1 h2 => by omega⟩
  case round =>
    obtain ⟨k, hak, hk, rfl, HK⟩ := hrel
    by_cases hlt : k < r
    · have hki : (k : Int) < (r : Int) := by omega
      have hji : (j : Int) < (c : Int) := by omega
      obtain ⟨bb, off, cp5, b', off', c', e6, hl5, h5, h6, h7, hl6, h8⟩ := HS.out.cellF k j hlt hj
      simp only [Value.slice.injEq] at e6
      obtain ⟨rfl, z9, rfl⟩ := e6
      clear z9
      unfold maxLen at hl5 hl6
      by_cases h0 : F k j = 0
      · have hb : (((F k j).toNat : Int) != 0) = false := by rw [h0]; rfl
        have HK2 : Hid (∀ i, a ≤ i → i < k + 1 → F i j = 0) := fun i h1 h2 => by
          by_cases e : i = k
          · rw [e]; exact h0
          · exact HK.out i h1 (by omega)
        clear h0
        go_wp2_with fail
        go_round
        case rel => exact ⟨k + 1, by omega, by omega, by go_num, HK2⟩
        case measure => simp [intOf]; omega
      · have hb : (((F k j).toNat : Int) != 0) = true := by
          rw [bne_iff_ne]; intro e
          exact h0 (u8_ext (by simpa using e))
        have HP := Lib.hid (piv_some hak hlt h0 HK.out)
        clear h0
        go_wp2_with fail
        go_ret2
        exact ⟨by rw [HP.out]; rfl, rfl⟩
    · obtain rfl : k = r := by omega
      have hki : ¬ (k : Int) < (k : Int) := by omega
      have HP := Lib.hid (piv_none HK.out)
      go_wp2_with fail
      go_ret2
      exact ⟨by rw [HP.out]; rfl, rfl⟩

/-- row k turns in place -/
def RowTurn (E EE : TypeId) (w : World) (lo hi : Nat) (v : Value) (L : Mat) (vs : List Value) (e : Ending) (w' : World) : Prop := e = .returned (.tuple #[]) ∧ OwnM E EE w' lo hi v L vs ∧ TurnIn lo hi w w'

set_option maxRecDepth 100000 in
set_option maxHeartbeats 1000000 in
theorem scaleRow_any (r c k lo hi : Nat) (F : Ents) (s : UInt8) (v u : Value) (vs : List Value) (w : World) (hM : OwnM 115 147 w lo hi v (mkM r c F) vs) (hk : k < r) (hu : vs[k]? = some u) (hc1 : 1 ≤ c) (hc : c ≤ 1000) (ht : Tab w) (h0 : 3 < lo) :
    Calls Tryz.prog 111 #[u, .int .u8 (s.toNat : Int)] w (RowTurn 115 147 w lo hi v (mkM r c (scF k s F)) vs) := by
  obtain ⟨bb, cp, hu2, e1, e2, e3, e4, e5, hfz, hcell⟩ := hM.rowF k hk hc1
  obtain rfl : u = .slice (some ⟨bb, 0, none⟩) c cp := Option.some.inj (hu.symm.trans hu2)
  have HU := Lib.hid hu
  have HM0 := Lib.hid (hM.congr (L' := mkM r c fun i j => if i = k ∧ j < 0 then gmul s (F k j) else F i j) (mkM_congr fun i j _ _ => by simp))
  have HT := Lib.hid ht
  have hm1 := methTimes
  unfold maxLen at e5
  clear hM hu hu2 hfz hcell ht
  go_enter Tryz.func111, Tryz.ntmps111
  go_wp2_with fail
  go_loopw [7] (fun i wr => ∃ m : Nat, m ≤ c ∧ i = .int .i64 m ∧ Hid (OwnM 115 147 wr lo hi v (mkM r c fun i j => if i = k ∧ j < m then gmul s (F k j) else F i j) vs) ∧ Hid (TurnIn lo hi w wr)) (fun i _ => c - (intOf i).toNat)
  case atStart => exact ⟨0, Nat.zero_le _, rfl, HM0, Lib.hid ⟨rfl, rfl, rfl, Nat.le_refl _, fun _ _ _ => rfl⟩⟩
  case round =>
    obtain ⟨m, hm, rfl, HM, HK⟩ := hrel
    by_cases hlm : m < c
    · have hmi : (m : Int) < (c : Int) := by omega
      obtain ⟨bb', cp', hu2, f1, f2, f3, f4, f5, hfz, hcell⟩ := HM.out.rowF k hk hc1
      obtain ⟨rfl, rfl⟩ : bb = bb' ∧ cp = cp' := by simpa using HU.out.symm.trans hu2
      have hcx := hcell m hlm
      have e : (if k = k ∧ m < m then gmul s (F k m) else F k m) = F k m := if_neg (by omega)
      rw [e] at hcx
      have hfr := hfz m
      have htr : Tab wr := fun i hi => (World.cell?_of_block (HK.out.block 3 (by have := HM0.out.top; omega) (by omega))).trans (HT.out i hi)
      have HTR := Lib.hid htr
      have HM2 := Lib.hid ((HM.out.storeF (j := m) (x := gmul s (F k m)) hk HU.out).congr (L' := mkM r c fun i j => if i = k ∧ j < m + 1 then gmul s (F k j) else F i j) (mkM_congr fun i j _ _ => by
        by_cases a1 : i = k
        · subst a1
          by_cases a2 : j = m
          · subst a2; simp
          · by_cases a3 : j < m
            · simp [a2, a3]; omega
            · simp [a2, a3]; omega
        · simp [a1]))
      have HK2 := Lib.hid (turn_trans HK.out (turn_setCell wr bb m (.int .u8 ((gmul s (F k m)).toNat : Int))) (by omega))
      have HC := Lib.hid (gmul_comm (F k m) s)
      clear hcell hfz hu2 f3 f5 htr e
      go_wp2_with fail
      refine (fbTimes_any (F k m) s _ HTR.out).mono ?_
      rintro e w' ⟨rfl, rfl⟩
      rw [HC.out]
      go_wp2_with fail
      go_roundw
      case rel => exact ⟨m + 1, by omega, by go_num, HM2, HK2⟩
      case measure => simp [intOf]; omega
    · obtain rfl : m = c := by omega
      have hmi : ¬ (m : Int) < (m : Int) := by omega
      go_wp2_with fail
      go_end0
      exact ⟨rfl, HM.out.congr (mkM_congr fun i j _ hj => by
        unfold scF
        by_cases a1 : i = k
        · subst a1; simp [hj]
        · simp [a1]), HK.out⟩

theorem stilly {P : Program} {f : FuncId} {args : Array Value} {w : World} {v : Value} (h : Calls P f args w fun e w' => e = .returned v ∧ w = w') :
    Calls P f args w fun e w' => e = .returned v ∧ w' = w := h.mono fun _ _ ⟨he, hw⟩ => ⟨he, hw.symm⟩

/-- column j cleared in the rows ahead of k and in the first m columns of row k -/
def clK (a j k m : Nat) (F : Ents) : Ents := fun i jj => if i < k ∨ (i = k ∧ jj < m) then clF a (fun i => F i j) F i jj else F i jj

set_option maxRecDepth 100000 in
set_option maxHeartbeats 2000000 in
theorem clearColumn_any (r c a j lo hi : Nat) (F : Ents) (v : Value) (vs : List Value) (w : World) (hM : OwnM 115 147 w lo hi v (mkM r c F) vs) (ha : a < r) (hj : j < c) (hr : r ≤ 1000) (hc : c ≤ 1000) (ht : Tab w) (h0 : 3 < lo) :
    Calls Tryz.prog 112 #[v, .int .i64 a, .int .i64 j] w (RowTurn 115 147 w lo hi v (mkM r c (clF a (fun i => F i j) F)) vs) := by
  obtain ⟨g, cp, rfl, hg1, hg2, hg3, hg4⟩ := hM.sliceF (by omega)
  have HM0 := Lib.hid (hM.congr (L' := mkM r c (clK a j 0 0 F)) (mkM_congr fun i jj _ _ => by simp [clK]))
  have HT := Lib.hid ht
  have hm1 := methTimes
  have hm2 := methPlus
  unfold maxLen at hg4
  clear hM ht
  go_enter Tryz.func112, Tryz.ntmps112
  go_wp2_with fail
  go_loopw [11] (fun i wr => ∃ k : Nat, k ≤ r ∧ i = .int .i64 k ∧ Hid (OwnM 115 147 wr lo hi (.slice (some ⟨g, 0, none⟩) r cp) (mkM r c (clK a j k 0 F)) vs) ∧ Hid (TurnIn lo hi w wr)) (fun i _ => r - (intOf i).toNat)
  case atStart => exact ⟨0, Nat.zero_le _, rfl, HM0, Lib.hid ⟨rfl, rfl, rfl, Nat.le_refl _, fun _ _ _ => rfl⟩⟩
  case round =>
    obtain ⟨k, hk, rfl, HM, HK⟩ := hrel
    by_cases hlt : k < r
    · have hki : (k : Int) < (r : Int) := by omega
      by_cases hka : k = a
      · have hbb : ((k : Int) == (a : Int)) = true := by simp [hka]
        have HM2 := Lib.hid (HM.out.congr (L' := mkM r c (clK a j (k + 1) 0 F)) (mkM_congr fun i jj _ _ => by
          unfold clK
          by_cases a1 : i = k
          · subst a1; simp [clF, hka]
          · by_cases a2 : i < k
            · simp [a2, show i < k + 1 by omega]
            · simp [a1, a2, show ¬ i < k + 1 by omega]))
        clear hka
        go_wp2_with fail
        go_roundw
        case rel => exact ⟨k + 1, by omega, by go_num, HM2, HK⟩
        case measure => simp [intOf]; omega
      · have hbb : ((k : Int) == (a : Int)) = false := by simp; omega
        obtain ⟨bk, ck, huk, k1, k2, k3, k4, k5, kfz, kcell⟩ := HM.out.rowF k hlt (by omega)
        obtain ⟨ba, ca, hua, a1, a2, a3, a4, a5, afz, acell⟩ := HM.out.rowF a ha (by omega)
        have hck := HM.out.cellAt huk
        have hcf := kcell j hj
        have ef : clK a j k 0 F k j = F k j := by simp [clK]
        rw [ef] at hcf
        have hne : bk ≠ ba := fun e => hka ((HM.out.apart a _ ba hua rfl).2 k _ huk (by rw [e]; rfl))
        have HUK := Lib.hid huk
        have HUA := Lib.hid hua
        have n1 : g ≠ bk := fun e => k3 (by rw [e]; rfl)
        have n2 : g ≠ ba := fun e => a3 (by rw [e]; rfl)
        have hji : (j : Int) < (c : Int) := by omega
        unfold maxLen at k5 a5
        have HKA := Lib.hid hka
        clear kcell acell kfz afz huk hua k3 a3 ef hka
        go_wp2_with fail
        go_loopw [29] (fun i wq => ∃ m : Nat, m ≤ c ∧ i = .int .i64 m ∧ Hid (OwnM 115 147 wq lo hi (.slice (some ⟨g, 0, none⟩) r cp) (mkM r c (clK a j k m F)) vs) ∧ Hid (TurnIn lo hi w wq)) (fun i _ => c - (intOf i).toNat)
        case atStart => exact ⟨0, Nat.zero_le _, rfl, HM, HK⟩
        case round =>
          obtain ⟨m, hm, rfl, HM, HK⟩ := hrel
          clear hck hcf
          by_cases hlm : m < c
          · have hmi : (m : Int) < (c : Int) := by omega
            have hk0 : (0 : Int) ≤ (k : Int) := Int.natCast_nonneg _
            have hm0 : (0 : Int) ≤ (m : Int) := Int.natCast_nonneg _
            have ha0 : (0 : Int) ≤ (a : Int) := Int.natCast_nonneg _
            have hai : (a : Int) < (r : Int) := by omega
            obtain ⟨bk', ck', huk, _, _, _, _, _, kfz, kcell⟩ := HM.out.rowF k hlt (by omega)
            obtain ⟨rfl, rfl⟩ : bk = bk' ∧ ck = ck' := by simpa using HUK.out.symm.trans huk
            obtain ⟨ba', ca', hua, _, _, _, _, _, afz, acell⟩ := HM.out.rowF a ha (by omega)
            obtain ⟨rfl, rfl⟩ : ba = ba' ∧ ca = ca' := by simpa using HUA.out.symm.trans hua
            have hck := HM.out.cellAt HUK.out
            have hca := HM.out.cellAt HUA.out
            have hcx := kcell m hlm
            have hcy := acell m hlm
            have hfr := kfz m
            have ex : clK a j k m F k m = F k m := by simp [clK]
            have ey : clK a j k m F a m = F a m := by unfold clK clF; split <;> simp
            rw [ex] at hcx
            rw [ey] at hcy
            have htr : Tab wr := fun i hi => (World.cell?_of_block (HK.out.block 3 (by have := HM0.out.top; omega) (by omega))).trans (HT.out i hi)
            have htd : Tab wr.drew := htr
            have HTR := Lib.hid htd
            obtain ⟨y, hyy⟩ : ∃ y : UInt8, y = F k m ^^^ gmul (F k j) (F a m) := ⟨_, rfl⟩
            have HPL : Hid (∀ W, Calls Tryz.prog 138 #[.int .u8 ((F k m).toNat : Int), .int .u8 ((gmul (F k j) (F a m)).toNat : Int)] W fun e w' => e = .returned (.int .u8 (y.toNat : Int)) ∧ w' = W) := by
              intro W
              rw [hyy]
              exact stilly (fbPlus_any (F k m) (gmul (F k j) (F a m)) W)
            have HM2 := Lib.hid (((HM.out.storeF (j := m) (x := y) hlt HUK.out).congr (L' := mkM r c (clK a j k (m + 1) F)) (mkM_congr fun i jj _ _ => by
              unfold clK
              by_cases b1 : i = k
              · subst b1
                by_cases b2 : jj = m
                · subst b2
                  have : ¬ i = a := HKA.out
                  simp [clF, this, hyy]
                · by_cases b3 : jj < m
                  · simp [b2, b3, show jj < m + 1 by omega]
                  · simp [b2, b3, show ¬ jj < m + 1 by omega]
              · simp [b1])).drewN 1)
            have hk2 := turn_trans HK.out (turn_setCell wr bk m (.int .u8 (y.toNat : Int))) (by omega)
            have HK2 : Hid (TurnIn lo hi w (wr.setCell ⟨bk, m, none⟩ (.int .u8 (y.toNat : Int))).drew) := ⟨hk2.os, hk2.tape, hk2.output, hk2.size, hk2.block⟩
            clear kcell acell kfz afz huk hua ex ey htr htd hk2 hyy
            go_wp2_with fail
            refine wp_region_still_tail 25 (by kernel_rfl) (by kernel_rfl) ?_
            simp only [List.take_succ_cons, List.take_zero, List.drop_succ_cons, List.drop_zero]
            repeat (first | still_step | still_call (stilly (fbTimes_any (F k j) (F a m) _ HTR.out)) | still_call (HPL.out _))
            refine wpStill_nil ?_
            go_wp2_with fail
            go_roundw
            case rel => exact ⟨m + 1, by omega, by go_num, HM2, HK2⟩
            case measure => simp [intOf]; omega
          · obtain rfl : m = c := by omega
            have hmi : ¬ (m : Int) < (m : Int) := by omega
            go_wp2_with fail
            go_roundw
            case rel => exact ⟨k + 1, by omega, by go_num, Lib.hid (HM.out.congr (mkM_congr fun i jj _ hjj => by
              unfold clK
              by_cases b1 : i = k
              · subst b1; simp [hjj]
              · by_cases b2 : i < k
                · simp [b2, show i < k + 1 by omega]
                · simp [b1, b2, show ¬ i < k + 1 by omega])), HK⟩
            case measure => simp [intOf]; omega
    · obtain rfl : k = r := by omega
      have hki : ¬ (k : Int) < (k : Int) := by omega
      go_wp2_with fail
      go_end0
      exact ⟨rfl, HM.out.congr (mkM_congr fun i j hi _ => by simp [clK, hi]), HK.out⟩
end Go.Proofs.YtblfobbeojdihaaGreatDoor
