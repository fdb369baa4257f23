/- Chapter 8: the generator: the program's and the model's. -/
import Derived.Test.YtfglkgeeelapgaaDoorErrW1
import Derived.Test.YtfglkgeeelapgaaDoorMatMem
set_option linter.unusedSimpArgs false
set_option linter.unusedVariables false
namespace G294
open Go Go.RowKit
theorem OwnBytes.setB {E : TypeId} {w : World} {lo hi g n c : Nat} {l : List UInt8} (h : OwnBytes E w lo hi (.slice (some ⟨g, 0, none⟩) n c) l) (hn : n = l.length) (k : Nat) (x : UInt8) :
    OwnBytes E (w.setCell ⟨g, k, none⟩ (.int .u8 (x.toNat : Int))) lo hi (.slice (some ⟨g, 0, none⟩) n c) (l.set k x) ∧ TurnIn lo hi w (w.setCell ⟨g, k, none⟩ (.int .u8 (x.toNat : Int))) := by
  obtain ⟨h1, h2, h3⟩ := h
  subst hn
  have hs := h1.stored k (.int .u8 (x.toNat : Int))
  refine ⟨⟨by rw [bys_set, List.length_set]; exact hs.1, by simpa using h2, h3⟩, TurnIn.of_grown hs.2 fun g' e => ?_⟩
  obtain rfl : g = g' := Option.some.inj e
  exact ⟨(h1.lt g rfl).1, h3 g rfl⟩
theorem ArrAt.seenTake {W : World} {B T : Nat} {l : List UInt8} (h : ArrAt W B T l) {k : Nat} (hk : k ≤ l.length) (hm : l.length ≤ 1000) : Seen W (.slice (some ⟨B, 0, none⟩) k l.length) (bys (l.take k)) :=
  ⟨_, l.length, by simp [Nat.min_eq_left hk], by simp; omega, by unfold maxLen; omega, fun _ => ⟨B, 0, rfl, h.lt, fun i u hu => by
    have hi : i < k := by have := (List.getElem?_eq_some_iff.1 hu).1; simp at this; omega
    rw [cell_of_row W B _ _ T _ h, List.getElem?_toArray, Nat.zero_add, ← hu]
    simp [bys, List.getElem?_take, hi]⟩⟩
end G294
namespace Go.Proofs.YtfglkgeeelapgaaDoor
open Go.RowKit G294

theorem sliceCoef (B k : Nat) (hk : k + 1 ≤ 20) (W : World) : (Instr.sliceAt 100 (.pointer (some ⟨B, 0, none⟩)) none (some (.int .i64 ((k : Int) + 1))) none).run Tryd.prog W = .ok (.slice (some ⟨B, 0, none⟩) (k + 1) 20) W := by
  have hal : Tryd.prog.arrayLen 100 = 20 := by kernel_rfl
  have hel : (sizeOf (Tryd.prog.elem 100)).run Tryd.prog W = .ok 1 W := by kernel_rfl
  rw [run_sliceAt_array_h W 100 ⟨B, 0, none⟩ (by kernel_rfl) .i64 ((k : Int) + 1) (by omega) (by rw [hal]; omega), hel, hal]
  simp only [Result.andThen, slicedAt]
  rw [show ((k : Int) + 1).toNat = k + 1 by omega]
  simp [Addr.add]

set_option maxRecDepth 100000 in
set_option maxHeartbeats 4000000 in
theorem generatorOf_own (t : Int) (w : World) (ht : Tab w) (h0 : 2 < w.heap.size) :
    Calls Tryd.prog 31 #[.int .i64 t] w (RetBytesOk 5 w (genR t) (errT t)) := by
  by_cases he : errT t = true
  · obtain ⟨m, rfl, h1, h4⟩ := errT_b he
    have HR : Hid (genR (m : Int) = genL (2 * m)) := by show _ = _; unfold genR; rw [if_pos he]; simp
    have HE := Lib.hid he
    have HT := Lib.hid ht
    have HW : Hid (∀ k, k ≤ 18 → wrC (powB 3 (k + 1)) (pad20 (genL k)) = pad20 (genL (k + 1))) := fun k hk => by rw [wr_pad _ _ (by simp; omega)]; rfl
    have HPL : Hid (∀ k, k ≤ 19 → (pad20 (genL k)).length = 20) := fun k hk => pad20_length (by simp; omega)
    have HTK : Hid (∀ k, (pad20 (genL k)).take (k + 1) = genL k) := fun k => by have := pad_take (genL k); rwa [genL_length] at this
    clear he ht
    go_enter Tryd.func31, Tryd.ntmps31
    go_wp2_with fail
    refine (goodWrong_any _ _).mono ?_
    rintro e w' ⟨rfl, rfl⟩
    rw [HE.out]
    go_wp2_with (refine wpList_alloc_arr rfl 100 rfl _ zeroCoef ?_)
    intro W1 hW1
    replace hW1 := hW1.out
    have t1 := hW1 ▸ turn_alloc w (.cells (bys (List.replicate 20 0)).toArray 100)
    have r1 := hW1 ▸ ArrAt.new w 100 (List.replicate 20 0)
    have z1 := hW1 ▸ World.size_alloc w (.cells (bys (List.replicate 20 0)).toArray 100)
    clear hW1
    generalize hB : w.heap.size = B at *
    have HBE := Lib.hid hB
    clear hB
    go_wp2_with (refine wpList_store_arr rfl 100 _ _ rfl B 20 _ _ (pad20 (genL 0)) rfl rfl r1 sizeCoef (by simp) (by simp [pad20]) ?_)
    intro W2 hW2
    replace hW2 := hW2.out
    have r2 := hW2 ▸ r1.row (pad20 (genL 0))
    have t2 := hW2 ▸ turn_row W1 B (bys (pad20 (genL 0))).toArray
    have z2 : W2.heap.size = B + 1 := by rw [hW2]; simp [z1]
    have k2 : TurnIn 0 0 w W2 := turn_trans t1 t2 (by have := HBE.out; omega)
    clear hW2 r1 t1 t2 z1
    have htab2 : Tab W2 := HT.out.below k2.to_below (by rw [HBE.out]; exact h0)
    have HTB2 := Lib.hid htab2
    clear htab2
    go_wp2_with fail
    refine (rootsOf_own m W2 h1 h4 HTB2.out (by omega)).mono ?_
    rintro e W3 ⟨v3, rfl, o3, k3⟩
    obtain ⟨n, hn⟩ : ∃ n, n = 2 * m := ⟨_, rfl⟩
    have hn1 : 1 ≤ n := by omega
    have hn8 : n ≤ 8 := by omega
    rw [← hn] at o3
    have HNM : Hid ((n : Int) = 2 * (m : Int)) := by show _ = _; omega
    have HCC : Hid (∀ W : World, Calls Tryd.prog 89 #[.int .i64 (m : Int)] W fun e w' => e = .returned (.int .i64 (n : Int)) ∧ W = w') := fun W => by rw [hn]; exact checkCount_any m W (by omega)
    rw [← hn] at HR
    clear hn
    have HRL : Hid ((rootsL n).length = n) := by show _ = _; simp [rootsL]
    have HRG : Hid (∀ k, k < n → (rootsL n).getD k 0 = powB 3 (k + 1)) := fun k hk => by simp [rootsL, mkRow, List.getD, hk]
    obtain ⟨g, cp, rfl, hg1, hg2, hcp1, hcp2⟩ := o3.slice (by rw [HRL.out]; omega)
    rw [HRL.out] at o3 hcp1 ⊢
    unfold maxLen at hcp2
    have r3 := r2.keep k3 (by omega)
    have kw := turn_trans k2 k3 (by omega)
    have z3 := k3.size
    clear r2 k2 k3
    go_wp2_with fail
    go_loopw [14] (fun i wr => ∃ k : Nat, k ≤ n ∧ i = .int .i64 k ∧ ArrAt wr B 100 (pad20 (genL k)) ∧ OwnBytes 5 wr W2.heap.size W3.heap.size (.slice (some ⟨g, 0, none⟩) n cp) (rootsL n) ∧ TurnIn 0 0 w wr ∧ W3.heap.size ≤ wr.heap.size)
      (fun i _ => n - (intOf i).toNat)
    case atStart => exact ⟨0, by omega, rfl, r3, o3, kw, Nat.le_refl _⟩
    case round =>
      obtain ⟨k, hk, rfl, q3, qo, qw, z4⟩ := hrel
      clear r3 o3 kw
      by_cases hlt : k < n
      · have hki : (k : Int) < (n : Int) := by omega
        have hcx := qo.cellAt (k := k) (by rw [HRL.out]; exact hlt)
        rw [HRG.out k hlt] at hcx
        have htab : Tab wr := HT.out.below qw.to_below (by rw [HBE.out]; exact h0)
        have HTB := Lib.hid htab
        clear htab
        go_wp2_with (refine wpList_load_arr rfl 100 _ rfl B 20 20 5 _ _ rfl q3 sizeCoef Tryd.underlying100 (HPL.out k (by omega)) ?_)
        intro u hu
        replace hu := hu.out
        subst hu
        go_wp2_with fail
        refine (withRoot_own (pad20 (genL k)) (powB 3 (k + 1)) wr (HPL.out k (by omega)) HTB.out (by omega)).mono ?_
        rintro e W5 ⟨rfl, k5⟩
        rw [HW.out k (by omega)]
        have q5 := q3.keep k5 (by omega)
        have qo5 := qo.keep k5 (by omega)
        have qw5 := turn_trans qw k5 (by omega)
        have z5 := k5.size
        clear q3 qo qw hcx
        go_wp2_with (refine wpList_store_arr rfl 100 _ _ rfl B 20 _ _ (pad20 (genL (k + 1))) rfl rfl q5 sizeCoef (HPL.out k (by omega)) (HPL.out (k + 1) (by omega)) ?_)
        intro W6 hW6
        replace hW6 := hW6.out
        have r6 := hW6 ▸ q5.row (pad20 (genL (k + 1)))
        have t6 := hW6 ▸ turn_row W5 B (bys (pad20 (genL (k + 1)))).toArray
        have qo6 := qo5.keep t6 (by omega)
        have qw6 : TurnIn 0 0 w W6 := turn_trans qw5 t6 (by have := HBE.out; omega)
        have z6 := t6.size
        clear hW6 q5 qo5 qw5 t6
        go_wp2_with fail
        go_roundw
        case rel => exact ⟨k + 1, by omega, by go_num, r6, qo6, qw6, by omega⟩
        case measure => simp [intOf]; omega
      · obtain rfl : k = n := by omega
        have hki : ¬ (k : Int) < (k : Int) := by omega
        have hs := q3.seenTake (k := k + 1) (by rw [HPL.out k (by omega)]; omega) (by rw [HPL.out k (by omega)]; omega)
        rw [HPL.out k (by omega), HTK.out k] at hs
        have HS := Lib.hid hs
        have HGL : Hid ((genL k).length = k + 1) := genL_length k
        have hk0 : (0 : Int) ≤ (k : Int) + 1 := by omega
        have hal : Tryd.prog.arrayLen 100 = 20 := by kernel_rfl
        have hk20 : (k : Int) + 1 ≤ ((Tryd.prog.arrayLen 100 : Nat) : Int) := by rw [hal]; omega
        have hsl := sliceCoef B k (by omega)
        clear hs q3 qo hal hk20 hk0
        go_wp2_with fail
        refine (HCC.out _).mono ?_
        rintro e w' ⟨rfl, rfl⟩
        go_wp2_with fail
        refine (cloneB_own _ (genL k) _ HS.out (by rw [HGL.out]; omega) (by rw [HGL.out]; omega)).mono ?_
        rintro e w6 ⟨v6, rfl, o6, k6⟩
        have s6 := qw.size
        have kk := turn_trans qw k6 (by omega)
        have o6' := o6.wider (lo' := w.heap.size) (hi' := w6.heap.size) (by omega) (Nat.le_refl _) (Nat.le_refl _)
        go_wp2_with fail
        go_ret2
        exact ⟨v6, by rw [HE.out]; rfl, by rw [HR.out]; exact o6', kk⟩
  · have HE : Hid (errT t = false) := by show _ = _; simpa using he
    have HR : Hid (genR t = []) := if_neg he
    clear he
    go_enter Tryd.func31, Tryd.ntmps31
    go_wp2_with fail
    refine (goodWrong_any _ _).mono ?_
    rintro e w' ⟨rfl, rfl⟩
    rw [HE.out]
    go_wp2_with fail
    go_ret2
    exact ⟨.slice none 0 0, by rw [HE.out]; rfl, by rw [HR.out]; exact OwnBytes.nil _ _ _, TurnIn.refl _⟩

end Go.Proofs.YtfglkgeeelapgaaDoor
