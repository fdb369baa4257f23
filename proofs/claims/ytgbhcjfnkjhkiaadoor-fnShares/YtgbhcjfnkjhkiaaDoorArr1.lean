/- Arrays of 20 bytes: the program's hidden. -/
import Derived.Test.YtgbhcjfnkjhkiaaDoorPoly2
import Derived.Test.YtgbhcjfnkjhkiaaDoorArrMem
import Derived.Test.YtgbhcjfnkjhkiaaDoorMatI
set_option linter.unusedSimpArgs false
set_option linter.unusedVariables false
namespace G294
open Go
theorem hid_splice (s : UInt8) (l : List UInt8) (h : l.length ≤ 19) : splice (bys (pad20 [s])) 1 (bys l) = bys (pad20 (s :: l)) := by
  have e1 : bys (pad20 [s]) = .int .u8 (s.toNat : Int) :: List.replicate 19 (.int .u8 0) := rfl
  have e2 : bys (pad20 (s :: l)) = .int .u8 (s.toNat : Int) :: (bys l ++ List.replicate (19 - l.length) (.int .u8 0)) := by
    simp [pad20, bys, show 20 - (l.length + 1) = 19 - l.length by omega]
  rw [e1, e2]
  unfold splice
  rw [bys_length, Nat.add_comm 1, List.drop_succ_cons, List.drop_replicate]
  rfl
end G294
namespace Go.Proofs.YtgbhcjfnkjhkiaaDoor
open Go.RowKit G294

theorem infoCoef : (Tryd.prog.info? 136).map (fun i => (i.zero, i.size)) = some (some (aggL (List.replicate 20 0)), 20) := by kernel_rfl

theorem zeroCoef : (Tryd.prog.info? 136).map (·.zero) = some (some (aggL (List.replicate 20 0))) := by
  have := infoCoef
  cases h : Tryd.prog.info? 136 <;> simp_all

theorem sizeCoef : (Tryd.prog.info? 136).map (·.size) = some 20 := by
  have := infoCoef
  cases h : Tryd.prog.info? 136 <;> simp_all

theorem sizeByteA : (Tryd.prog.info? 5).map (·.size) = some 1 := by
  have := infoByte
  cases h : Tryd.prog.info? 5 <;> simp_all

set_option maxRecDepth 100000 in
set_option maxHeartbeats 1000000 in
theorem hidden_own (s : UInt8) (v : Value) (l : List UInt8) (w : World) (hv : Seen w v (bys l)) (hl : l.length ≤ 19) :
    Calls Tryd.prog 113 #[.int .u8 (s.toNat : Int), v] w fun e w' => e = .returned (aggL (pad20 (s :: l))) ∧ TurnIn 0 0 w w' := by
  obtain ⟨A, c, rfl, hlc, hcm, hx⟩ := hv
  simp only [bys_length] at hlc hx ⊢
  unfold maxLen at hcm
  have HX := Lib.hid hx
  have HSP := Lib.hid (hid_splice s l hl)
  have HB := Lib.hid (bys_length l)
  have HLN := Lib.hid (pad20_length (l := s :: l) (by simp; omega))
  clear hx
  go_enter Tryd.func113, Tryd.ntmps113
  go_wp2_with (refine wpList_alloc_arr rfl 136 rfl _ zeroCoef ?_)
  intro W1 hW1
  replace hW1 := hW1.out
  have t1 := hW1 ▸ turn_alloc w (.cells (bys (List.replicate 20 0)).toArray 136)
  have r1 := hW1 ▸ ArrAt.new w 136 (List.replicate 20 0)
  have z1 := hW1 ▸ World.size_alloc w (.cells (bys (List.replicate 20 0)).toArray 136)
  clear hW1
  generalize hB : w.heap.size = B at *
  have HBE := Lib.hid hB
  clear hB
  go_wp2_with (refine wpList_alloc_arr rfl 136 rfl _ zeroCoef ?_)
  intro W2 hW2
  replace hW2 := hW2.out
  have t2 := hW2 ▸ turn_alloc W1 (.cells (bys (List.replicate 20 0)).toArray 136)
  have r2 := hW2 ▸ ArrAt.new W1 136 (List.replicate 20 0)
  have z2 := hW2 ▸ World.size_alloc W1 (.cells (bys (List.replicate 20 0)).toArray 136)
  rw [z1] at r2 z2
  replace r1 := r1.keep t2 (by omega)
  clear hW2
  go_wp2_with (refine wpList_store_arr rfl 136 _ _ rfl (B + 1) 20 _ _ (pad20 [s]) rfl rfl r2 sizeCoef (by simp) (by simp [pad20]) ?_)
  intro W3 hW3
  replace hW3 := hW3.out
  have r3 := hW3 ▸ r2.row (pad20 [s])
  have t3 := hW3 ▸ turn_row W2 (B + 1) (bys (pad20 [s])).toArray
  replace r1 := r1.keep t3 (by omega)
  have z3 : W3.heap.size = B + 1 + 1 := by rw [hW3]; simp [z2]
  have hb3 : TurnIn 0 0 w W3 := turn_trans (turn_trans t1 t2 (by omega)) t3 (by have := HBE.out; omega)
  clear hW3 r2 t3 t1 t2
  go_wp2_with (refine wpList_copy_splice rfl _ _ _ _ rfl 5 Tryd.underlying22 sizeByteA _ _ _ _ _ _ rfl rfl (B + 1) 1 (bys (pad20 [s])) 136 r3 (bys l) ?c1 ?c2 ?c3 ?c4 (B + 1) W3 (Below.refl _ _) (Nat.le_refl _) ?_)
  case c1 => rw [HB.out]; show _ = min _ _; omega
  case c2 =>
    intro hp
    obtain ⟨b, off, rfl, hbl, hcell⟩ := HX.out hp
    refine ⟨_, rfl, fun j u hu => ?_⟩
    rw [Addr.add_lit]
    exact cell_turn hb3 (hcell j u hu) (by rw [HBE.out]; exact hbl)
  case c3 => rw [HB.out]; simp [pad20]; omega
  case c4 => exact fun u hu => bys_one u l hu
  intro W4 hg4 hb4
  rw [HSP.out] at hg4
  have r4 : ArrAt W4 (B + 1) 136 (pad20 (s :: l)) := hg4.out
  have t4 := turn_from hb4
  rw [z3] at t4
  have z4 : B + 1 + 1 ≤ W4.heap.size := by have := hb4.size; omega
  replace r1 := r1.keep t4 (by omega)
  have hb5 : TurnIn 0 0 w W4 := turn_trans hb3 t4 (by have := HBE.out; omega)
  clear hg4 r3 hb4 t4
  go_wp2_with (refine wpList_load_arr rfl 136 _ rfl (B + 1) 20 20 5 _ _ rfl r4 sizeCoef Tryd.underlying136 HLN.out ?_)
  intro u hu
  replace hu := hu.out
  subst hu
  go_wp2_with (refine wpList_store_arr rfl 136 _ _ rfl B 20 _ _ (pad20 (s :: l)) rfl rfl r1 sizeCoef (by simp) HLN.out ?_)
  intro W5 hW5
  replace hW5 := hW5.out
  have r5 := hW5 ▸ r1.row (pad20 (s :: l))
  have t5 := hW5 ▸ turn_row W4 B (bys (pad20 (s :: l))).toArray
  have hb6 : TurnIn 0 0 w W5 := turn_trans hb5 t5 (by have := HBE.out; omega)
  clear hW5
  go_wp2_with fail
  exact bodyPost_ret (ret_arr rfl _ B 20 20 _ 5 _ rfl r5 Tryd.underlying136 sizeCoef HLN.out) rfl ⟨rfl, hb6⟩

end Go.Proofs.YtgbhcjfnkjhkiaaDoor
