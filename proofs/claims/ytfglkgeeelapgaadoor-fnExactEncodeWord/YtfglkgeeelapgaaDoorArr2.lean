/- Arrays of 20 bytes: the program's withRoot. -/
import Derived.Test.YtfglkgeeelapgaaDoorArr1
import Derived.StillTailTactics
set_option linter.unusedSimpArgs false
set_option linter.unusedVariables false
namespace G294
open Go
theorem root_splice (V : List UInt8) (h : V.length = 20) : splice (bys (List.replicate 20 0)) 1 (bys (V.take 19)) = bys (0 :: V.take 19) := by
  have e1 : bys (List.replicate 20 0) = .int .u8 0 :: List.replicate 19 (.int .u8 0) := rfl
  have e2 : (V.take 19).length = 19 := by simp [h]
  rw [e1]
  unfold splice
  rw [bys_length, e2]
  simp [bys]
end G294
namespace Go.Proofs.YtfglkgeeelapgaaDoor
open Go.RowKit G294

set_option maxRecDepth 100000 in
set_option maxHeartbeats 2000000 in
theorem withRoot_own (V : List UInt8) (r : UInt8) (w : World) (hV : V.length = 20) (ht : Tab w) (h0 : 2 < w.heap.size) :
    Calls Tryd.prog 87 #[aggL V, .int .u8 (r.toNat : Int)] w fun e w' => e = .returned (aggL (wrC r V)) ∧ TurnIn 0 0 w w' := by
  have HSP := Lib.hid (root_splice V hV)
  have HL19 : Hid ((0 :: V.take 19).length = V.length) := by show _ = _; simp [hV]
  have HLW : Hid ((wrC r V).length = 20) := by
    show _ = _
    unfold wrC
    rw [addL_lenS _ _ (by rw [scaleL_lenS]; exact HL19.out), HL19.out, hV]
  have HT := Lib.hid ht
  clear ht
  go_enter Tryd.func87, Tryd.ntmps87
  go_wp2_with (refine wpList_box_arr rfl 100 _ rfl V rfl ?_)
  intro W1 hW1
  replace hW1 := hW1.out
  have t1 := hW1 ▸ turn_alloc w (.cells (bys V).toArray 100)
  have r1 := hW1 ▸ ArrAt.new w 100 V
  have z1 := hW1 ▸ World.size_alloc w (.cells (bys V).toArray 100)
  clear hW1
  generalize hB : w.heap.size = B at *
  have HBE := Lib.hid hB
  clear hB
  go_wp2_with (refine wpList_alloc_arr rfl 100 rfl _ zeroCoef ?_)
  intro W2 hW2
  replace hW2 := hW2.out
  have t2 := hW2 ▸ turn_alloc W1 (.cells (bys (List.replicate 20 0)).toArray 100)
  have r2 := hW2 ▸ ArrAt.new W1 100 (List.replicate 20 0)
  have z2 := hW2 ▸ World.size_alloc W1 (.cells (bys (List.replicate 20 0)).toArray 100)
  rw [z1] at r2 z2
  replace r1 := r1.keep t2 (by omega)
  replace t1 := turn_trans t1 t2 (by omega)
  clear hW2 t2 z1
  go_wp2_with (refine wpList_alloc_arr rfl 100 rfl _ zeroCoef ?_)
  intro W3 hW3
  replace hW3 := hW3.out
  have t3 := hW3 ▸ turn_alloc W2 (.cells (bys (List.replicate 20 0)).toArray 100)
  have r3 := hW3 ▸ ArrAt.new W2 100 (List.replicate 20 0)
  have z3 := hW3 ▸ World.size_alloc W2 (.cells (bys (List.replicate 20 0)).toArray 100)
  rw [z2] at r3 z3
  replace r1 := r1.keep t3 (by omega)
  replace r2 := r2.keep t3 (by omega)
  replace t1 := turn_trans t1 t3 (by omega)
  clear hW3 t3 z2
  have HC4 : Hid (∀ v ∈ bys (V.take 19), v.oneCell' = true) := fun u hu => bys_one u _ hu
  have HC1 : Hid ((bys (V.take 19)).length = 19) := by show _ = _; simp [hV]
  have HC2 : Hid (∀ j v, (bys (V.take 19))[j]? = some v → W3.drew.cell? ((⟨B, 0, none⟩ : Addr).add j) = some v) := fun j v hv => by
    have hj : j < 19 := by have := (List.getElem?_eq_some_iff.1 hv).1; rw [HC1.out] at this; exact this
    rw [Addr.add_lit, Nat.zero_add]
    rw [bys_get _ j (by simp [hV]; omega)] at hv
    rw [show W3.drew.cell? ⟨B, j, none⟩ = W3.cell? ⟨B, j, none⟩ from rfl, r1.cell j (by omega), ← hv]
    simp
  go_wp2_with fail
  go_region_law (refine step_copy_splice rfl _ _ _ _ rfl 5 Tryd.underlying22 sizeByteA (some ⟨B + 1 + 1, 1, none⟩) (some ⟨B, 0, none⟩) 19 19 20 20 rfl rfl (B + 1 + 1) 1 (bys (List.replicate 20 0)) 100 r3 (bys (V.take 19)) (by rw [HC1.out]; rfl) (fun _ => ⟨rfl, _, rfl, HC2.out⟩) (by rw [HC1.out]; simp) HC4.out (B + 1 + 1) W3 (Below.refl _ _).drew (Nat.le_refl _) ?_; intro W4 hg4 hb4)
  all_goals
    rw [HSP.out] at hg4
    have r4 : ArrAt W4 (B + 1 + 1) 100 (mixK r (0 :: V.take 19) V 0) := by rw [mixK_zero]; exact hg4.out
    have t4 := turn_from hb4
    rw [z3] at t4
    have z4 : B + 1 + 1 + 1 ≤ W4.heap.size := by have := hb4.size; omega
    replace r1 := r1.keep t4 (by omega)
    replace r2 := r2.keep t4 (by omega)
    replace t1 := turn_trans t1 t4 (by have := HBE.out; omega)
    clear hg4 hb4 t4 r3 HC1 HC2 HC4
    go_wp2_with (refine wpList_load_arr rfl 100 _ rfl B 20 20 5 _ _ rfl r1 sizeCoef Tryd.underlying100 hV ?_)
    intro u hu
    replace hu := hu.out
    subst hu
    go_wp2_with fail
    go_loopw [12] (fun i wr => ∃ k : Nat, k ≤ 20 ∧ i = .int .i64 k ∧ ArrAt wr (B + 1 + 1) 100 (mixK r (0 :: V.take 19) V k) ∧ ArrAt wr (B + 1) 100 (List.replicate 20 0) ∧ TurnIn 0 0 w wr ∧ B + 1 + 1 + 1 ≤ wr.heap.size)
      (fun i _ => 20 - (intOf i).toNat)
    case atStart => exact ⟨0, by omega, rfl, r4, r2, t1, z4⟩
    case round =>
      obtain ⟨k, hk, rfl, q4, q2, q1, z5⟩ := hrel
      clear r4 r2 t1 z4 r1 z3
      by_cases hlt : k < 20
      · have hki : (k : Int) < 20 := by omega
        have hkV : k < V.length := by omega
        have hkM : k < (0 :: V.take 19).length := by rw [HL19.out]; exact hkV
        have hcx := q4.cellAt (mixK_get r (0 :: V.take 19) V HL19.out k hkM)
        have hfr := q4.frozen k
        have htab : Tab wr := HT.out.below q1.to_below (by rw [HBE.out]; exact h0)
        obtain ⟨c, hc⟩ : ∃ c, c = V[k] := ⟨_, rfl⟩
        obtain ⟨m, hm⟩ : ∃ m, m = (0 :: V.take 19)[k] := ⟨_, rfl⟩
        rw [← hm] at hcx
        have HC := Lib.hid (stillA (times_u8 r c wr.drew (show Tab wr.drew from htab)))
        have hxor := xor_u8 m (gmul r c)
        have hst := q4.set k (m ^^^ gmul r c)
        rw [hm, hc, mixK_set r (0 :: V.take 19) V HL19.out k hkM hkV] at hst
        rw [← hm, ← hc] at hst
        have tst := turn_set wr (B + 1 + 1) k (.int .u8 ((m ^^^ gmul r c).toNat : Int))
        have q2' := q2.keep tst (by omega)
        have q1' : TurnIn 0 0 w _ := turn_trans q1 tst (by have := HBE.out; omega)
        have HST := Lib.hid hst
        have HQ2 := Lib.hid q2'
        have HQ1 := Lib.hid q1'
        have HCC : Hid (c = V[k]) := hc
        clear hst q2' q1' tst hm hc htab
        go_wp2_with (refine wpList_index_arr rfl 100 _ _ rfl V k 20 5 rfl rfl Tryd.underlying100 Tryd.underlying5 sizeByteA hV hkV ?_)
        intro u hu
        replace hu := hu.out
        rw [← HCC.out] at hu
        subst hu
        go_wp2_with fail
        refine wp_region_still_tail 8 (by kernel_rfl) (by kernel_rfl) ?_
        simp only [List.take_succ_cons, List.take_zero, List.drop_succ_cons, List.drop_zero]
        repeat (first | still_step | still_call (HC.out))
        refine wpStill_nil ?_
        go_wp2_with fail
        go_roundw
        case rel => exact ⟨k + 1, by omega, by go_num, HST.out, HQ2.out, turn_drewA HQ1.out, by simp; omega⟩
        case measure => simp [intOf]; omega
      · obtain rfl : k = 20 := by omega
        have hki : ¬ ((20 : Nat) : Int) < 20 := by omega
        have hend : mixK r (0 :: V.take 19) V 20 = wrC r V := mixK_end r _ V HL19.out 20 (by rw [HL19.out, hV]; exact Nat.le_refl _)
        rw [hend] at q4
        clear hend
        go_wp2_with (refine wpList_load_arr rfl 100 _ rfl (B + 1 + 1) 20 20 5 _ _ rfl q4 sizeCoef Tryd.underlying100 HLW.out ?_)
        intro u hu
        replace hu := hu.out
        subst hu
        go_wp2_with (refine wpList_store_arr rfl 100 _ _ rfl (B + 1) 20 _ _ (wrC r V) rfl rfl q2 sizeCoef (by simp) HLW.out ?_)
        intro W5 hW5
        replace hW5 := hW5.out
        have r5 := hW5 ▸ q2.row (wrC r V)
        have t5 := hW5 ▸ turn_row wr (B + 1) (bys (wrC r V)).toArray
        have hb6 : TurnIn 0 0 w W5 := turn_trans q1 t5 (by have := HBE.out; omega)
        clear hW5
        go_wp2_with fail
        exact bodyPost_ret (ret_arr rfl _ (B + 1) 20 20 _ 5 _ rfl r5 Tryd.underlying100 sizeCoef HLW.out) rfl ⟨rfl, hb6⟩

end Go.Proofs.YtfglkgeeelapgaaDoor
