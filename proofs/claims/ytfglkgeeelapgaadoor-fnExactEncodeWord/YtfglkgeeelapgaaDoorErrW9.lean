/- Chapter 8: EncodeWord: the program's. -/
import Derived.Test.YtfglkgeeelapgaaDoorErrW8
import Derived.Laws.CopyOwn
set_option linter.unusedSimpArgs false
set_option linter.unusedVariables false
namespace G294
open Go Go.RowKit
theorem own_splice {w : World} {E : TypeId} {base g n c : Nat} {xs : List Value} (h : w.ownsRow base E 1 (.slice (some ⟨g, 0, none⟩) n c) n xs) :
    ∃ cur : List Value, w.heap[g]? = some (.cells cur.toArray E (0, 0)) ∧ n ≤ cur.length ∧ base ≤ g ∧ ∀ (w' : World) (cs : List Value), cs.length ≤ n → w'.heap[g]? = some (.cells (splice cur 0 cs).toArray E (0, 0)) → w'.ownsRow base E 1 (.slice (some ⟨g, 0, none⟩) n c) n (cs ++ xs.drop cs.length) := by
  have hl := h.1
  rcases h.2 with ⟨hh, _⟩ | ⟨g', cap, cur, e, hbg, hg, hnc, hcm, hcs, ht⟩
  · simp at hh
  · simp only [Value.slice.injEq, Option.some.injEq, Addr.mk.injEq, and_true, true_and] at e
    obtain ⟨rfl, rfl⟩ := e
    refine ⟨cur.toList, by simpa using hg, by simp; omega, hbg, fun w' cs hc hw => ?_⟩
    refine ⟨by rw [List.length_append, List.length_drop]; omega, .inr ⟨g, c, _, rfl, hbg, hw, hnc, hcm, ?_, ?_⟩⟩
    · rw [List.size_toArray, length_splice _ _ _ (by simp; omega)]; simpa using hcs
    · rw [Nat.mul_one] at ht ⊢
      show (splice cur.toList 0 cs).take n = _
      unfold splice
      rw [← ht, List.take_zero, List.nil_append, Nat.zero_add, List.take_append, List.take_of_length_le hc, List.drop_take]
end G294
namespace Go.Proofs.YtfglkgeeelapgaaDoor
open Go.RowKit G294

theorem sizeByteE : (Tryd.prog.info? 5).map (·.size) = some 1 := by kernel_rfl

set_option maxRecDepth 100000 in
set_option maxHeartbeats 4000000 in
theorem encodeWord_own (v : Value) (l : List UInt8) (t : Int) (w : World) (hv : Seen w v (bys l)) (hl20 : l.length ≤ 1048576) (ht : Tab w) (h0 : 2 < w.heap.size) : Calls Tryd.prog 37 #[v, .int .i64 t] w (RetBytesOk 5 w (encR8 l t) (encOk8 l t)) := by
  have HV := Lib.hid hv
  have HT : Hid (∀ W, Below w.heap.size w W → Tab W ∧ 2 < W.heap.size) := fun W h => ⟨ht.below h h0, by have := h.size; omega⟩
  have HGO := Lib.hid (generatorOf_own t w ht h0)
  obtain ⟨A, c, rfl, hlc, hcm, hx⟩ := hv
  rw [bys_length] at hlc HV hx
  simp only [bys_length]
  unfold maxLen at hcm
  clear ht
  have HNO : Hid (encOk8 l t = false → encR8 l t = []) := fun h => if_neg (by rw [h]; simp)
  have HYES : Hid (encOk8 l t = true → encR8 l t = encL8 l (2 * t.toNat)) := fun h => if_pos h
  by_cases he : errT t = true
  · have HE := Lib.hid he
    obtain ⟨m, rfl, h1, h4⟩ := errT_b he
    have HF : Hid (encOk8 l (m : Int) = sizB m (2 * m + l.length)) := encOk8_b h1 h4
    have HGR : Hid (genR (m : Int) = genL (2 * m)) := by show _ = _; unfold genR; rw [if_pos he]; simp
    have HCC := Lib.hid (fun W : World => checkCount_any m W (by omega))
    obtain ⟨k, hk⟩ : ∃ k, k = 2 * m := ⟨_, rfl⟩
    rw [← hk] at HF HGR HCC
    have hk2 : 2 ≤ k := by omega
    have hk8 : k ≤ 8 := by omega
    have HYE : Hid (encOk8 l (m : Int) = true → encR8 l (m : Int) = leftL (zerosN k ++ l) (genL k) ++ l) := fun h => by
      rw [HYES.out h, encL8, Int.toNat_natCast, ← hk]
    have HSZ : Hid (∀ s, sizB m s = decide (k < s ∧ s ≤ 24)) := fun s => by rw [hk]; rfl
    have HGL : Hid ((genL k).length = k + 1) := genL_length k
    have HZL : Hid (bys (zerosN k) = List.replicate k (.int .u8 0) ∧ (zerosN k).length = k) := by
      show _ ∧ _
      exact ⟨by simp [zerosN, bys, List.map_replicate], by simp [zerosN]⟩
    clear he hk HYES
    generalize hnn : l.length = n at *
    have HN := Lib.hid hnn
    clear hnn
    obtain ⟨s, hs⟩ : ∃ s, s = k + n := ⟨_, rfl⟩
    have hwa : IntKind.i64.wrap ((k : Int) + (n : Int)) = (s : Int) := by rw [IntWalk.i64_in _ (by omega)]; omega
    have HGW : Hid (∀ W : World, Calls Tryd.prog 91 #[.int .i64 (s : Int), .int .i64 (m : Int)] W fun e w' => e = .returned (.bool (encOk8 l (m : Int))) ∧ W = w') := fun W => by
      rw [HF.out, ← hs]; exact goodWordSize_any s m W (by omega) (by omega)
    have hks : k + n = s := hs.symm
    clear hs
    go_enter Tryd.func37, Tryd.ntmps37
    go_wp2_with fail
    refine HGO.out.mono ?_
    rintro e w1 ⟨vg, rfl, og, k1⟩
    rw [HE.out, HGR.out] at *
    have hb1 := k1.to_below
    have z1 := k1.size
    clear k1
    go_wp2_with fail
    refine (HCC.out _).mono ?_
    rintro e w' ⟨rfl, rfl⟩
    go_wp2_with fail
    refine (HGW.out _).mono ?_
    rintro e w' ⟨rfl, rfl⟩
    by_cases hok : encOk8 l (m : Int) = true
    · have HO := Lib.hid hok
      have hsb : k < s ∧ s ≤ 24 := by
        have := hok
        rw [HF.out, show k + n = s from hks, HSZ.out, decide_eq_true_eq] at this
        exact this
      obtain ⟨hs1, hs2⟩ := hsb
      have hn1 : 1 ≤ n := by omega
      rw [HO.out]
      clear hok
      obtain ⟨b, off, rfl, hbl, hcell⟩ := hx (by omega)
      have HX := Lib.hid hcell
      clear hx hcell
      obtain ⟨i0, hi0, hz0, hz1, hz2⟩ := info_parts infoByte
      go_wp2_with fail
      refine (HCC.out _).mono ?_
      rintro e w' ⟨rfl, rfl⟩
      go_wp2_with (at_make; refine wpList_make_full _ rfl _ _ _ rfl w1.heap.size _ i0 _ 1 Tryd.underlying22 hi0 hz0 hz1 _ _ _ _ k rfl rfl rfl rfl ?b2 ?b3 ?b4 ?_)
      case b2 => rw [hz2]; omega
      case b3 => unfold maxLen; omega
      case b4 => exact Nat.le_refl _
      intro w2 hown2 hg2
      have t2 : TurnIn 0 0 w1 w2 := TurnIn.of_below (below_of_grown hg2 (Nat.le_refl _) (by simp))
      have z2 := t2.size
      rw [toList_madeCells_one, ← HZL.out.1] at hown2
      have HSE : Hid (Seen w2 (.slice (some ⟨w1.heap.size, 0, none⟩) k k) (bys (zerosN k))) := Seen.of_own hown2
      replace og := og.keep t2 (by omega)
      have hb2 := t2.base hb1 z1 (by omega)
      clear hown2 hg2 t2
      have ka := turn_alloc w2 (.cells #[.slice (some ⟨w1.heap.size, 0, none⟩) k k, .slice (some ⟨b, off, none⟩) n c] 22)
      have za := World.size_alloc w2 (.cells #[.slice (some ⟨w1.heap.size, 0, none⟩) k k, .slice (some ⟨b, off, none⟩) n c] 22)
      have HCO := Lib.hid (concatB_own (.slice (some ⟨w1.heap.size, 0, none⟩) k k) (.slice (some ⟨b, off, none⟩) n c) (zerosN k) l w2.heap.size (w2.alloc (.cells #[.slice (some ⟨w1.heap.size, 0, none⟩) k k, .slice (some ⟨b, off, none⟩) n c] 22)) (by rw [za]; omega) (by simp) (by simp) (HSE.out.touch ka) ((HV.out.below hb2).touch ka) (by rw [HZL.out.2]; omega) (by rw [HZL.out.2]; omega) (by rw [HN.out]; omega) (by rw [HN.out]; omega))
      replace og := og.keep ka (by omega)
      have hb3 := ka.base hb2 (by omega) (by omega)
      clear ka
      go_wp2_with fail
      refine HCO.out.mono ?_
      rintro e w4 ⟨v4, rfl, o4, k4⟩
      have z4 := k4.size
      rw [za] at z4
      replace og := og.keep k4 (by omega)
      have hb4 := k4.base hb3 (by omega) (by omega)
      have HZN : Hid ((zerosN k ++ l).length = s) := by show _ = _; rw [List.length_append, HZL.out.2, HN.out]; omega
      obtain ⟨g, cp, rfl, hg1, hg2, hcp1, hcp2⟩ := o4.slice (by rw [HZN.out]; omega)
      rw [HZN.out] at hcp1 ⊢
      rw [za] at hg1
      unfold maxLen at hcp2
      have HRB := Lib.hid (remainderBy_own (.slice (some ⟨g, 0, none⟩) s cp) vg (zerosN k ++ l) (genL k) w4 (by have := o4.seen; rwa [HZN.out] at this) og.seen (by rw [HGL.out]; omega) (by rw [HGL.out, HZN.out]; omega) (by rw [HZN.out]; omega) (HT.out w4 hb4).1 (HT.out w4 hb4).2)
      have o4' := o4.1
      rw [HZN.out] at o4'
      clear og k4 o4
      go_wp2_with fail
      refine HRB.out.mono ?_
      rintro e w5 ⟨v5, rfl, o5, k5⟩
      have z5 := k5.size
      have hb5 := k5.base hb4 (by omega) (by omega)
      have o4w := owns_turn o4' (fun g e => (o4'.lt g e).2) k5 (by omega)
      have HLL : Hid ((leftL (zerosN k ++ l) (genL k)).length = k) := by show _ = _; rw [leftL_length, HGL.out, Nat.add_sub_cancel]
      obtain ⟨g5, off5, cp5, rfl, hg5, hcm5, hcell5⟩ := seen_cellsB o5.seen (by rw [HLL.out]; omega)
      have HC5 := Lib.hid (hcell5 w5 (Below.refl _ _))
      rw [HLL.out]
      clear hcell5
      obtain ⟨cur, hcur, hcl, hbg, hafter⟩ := own_splice o4w
      have HCUR := Lib.hid hcur
      have HAF := Lib.hid hafter
      have HBL : Hid ((bys (leftL (zerosN k ++ l) (genL k))).length = k) := by show _ = _; rw [bys_length]; exact HLL.out
      clear o4' o5 k5 o4w hcur hafter
      go_wp2_with (refine wpList_copy_splice rfl _ _ _ _ rfl 5 Tryd.underlying22 sizeByteE _ _ _ _ _ _ rfl rfl g 0 cur 5 HCUR.out (bys (leftL (zerosN k ++ l) (genL k))) ?c1 ?c2 ?c3 (fun y hy => bys_one y _ hy) w.heap.size w hb5 (by omega) ?_)
      case c1 => rw [HBL.out]; show k = min k s; omega
      case c2 => exact fun _ j y hj => by have := HC5.out j y hj; rwa [Addr.add_lit] at this
      case c3 => rw [HBL.out]; omega
      intro w6 hg6 hb6
      have ho6 := HAF.out w6 _ (by rw [HBL.out]; omega) hg6.out
      have hdrop : (bys (zerosN k ++ l)).drop (bys (leftL (zerosN k ++ l) (genL k))).length = bys l := by
        rw [HBL.out, bys_append, List.drop_left' (by rw [bys_length]; exact HZL.out.2)]
      rw [hdrop, ← bys_append] at ho6
      have HO6 := Lib.hid ho6
      have HLE : Hid ((leftL (zerosN k ++ l) (genL k) ++ l).length = s) := by show _ = _; rw [List.length_append, HLL.out, HN.out]; omega
      clear ho6 hdrop hg6
      go_wp2_with fail
      go_ret2
      refine ⟨_, by rw [HO.out]; rfl, ?_, TurnIn.of_below hb6⟩
      rw [HYE.out HO.out]
      refine OwnBytes.of_made (w := w) ?_
      rw [HLE.out]; exact own_base HO6.out (by omega)
    · have HO : Hid (encOk8 l (m : Int) = false) := by show _ = _; simpa using hok
      rw [HO.out]
      clear hok
      go_wp2_with fail
      go_ret2
      exact ⟨.slice none 0 0, by rw [HO.out]; rfl, by rw [HNO.out HO.out]; exact OwnBytes.nil _ _ _, TurnIn.of_below hb1⟩
  · have HE : Hid (errT t = false) := by show _ = _; simpa using he
    have HO : Hid (encOk8 l t = false) := encOk8_no HE.out
    clear he
    generalize hnn : l.length = n at *
    go_enter Tryd.func37, Tryd.ntmps37
    go_wp2_with fail
    refine HGO.out.mono ?_
    rintro e w1 ⟨vg, rfl, og, k1⟩
    rw [HE.out]
    go_wp2_with fail
    go_ret2
    exact ⟨.slice none 0 0, by rw [HO.out]; rfl, by rw [HNO.out HO.out]; exact OwnBytes.nil _ _ _, k1⟩

end Go.Proofs.YtfglkgeeelapgaaDoor
