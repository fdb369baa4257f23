/- Marks on shards held. -/
import Derived.Test.YtipmfebnjmobfaaDoorShardWalks
import Derived.Test.YtipmfebnjmobfaaDoorMatI
import Derived.Deep.RegionLaw
set_option linter.unusedSimpArgs false
set_option linter.unusedVariables false
namespace Go.Proofs.YtipmfebnjmobfaaDoor
open Go.RowKit G294

set_option maxRecDepth 100000 in
set_option maxHeartbeats 2000000 in
theorem heldShardS_own (v : Value) (k0 n : Nat) (w : World) (hv : SeenH w v (marksH k0 n)) (h1 : 0 < k0) (hk0 : k0 + n * 2 ≤ 1000000000000) :
    Calls Tryd.prog 52 #[v, .int .i64 k0] w (RetInt w ((k0 + n * 2 : Nat) : Int)) := by
  obtain ⟨A, c, rfl, hlc, hcm, hx⟩ := hv
  simp only [marksH_length] at hlc hx ⊢
  unfold maxLen at hcm
  go_enter Tryd.func52, Tryd.ntmps52
  go_wp2_with fail
  go_loopw [1, 5] (fun q i wr => ∃ k : Nat, k ≤ n ∧ i = .int .i64 k ∧ q = .int .i64 ((k0 + k * 2 : Nat) : Int) ∧ Below w.heap.size w wr)
    (fun _ i _ => n - (intOf i).toNat)
  case atStart => exact ⟨0, Nat.zero_le _, rfl, by simp, Below.refl _ _⟩
  case round =>
    obtain ⟨k, hk, rfl, rfl, hb⟩ := hrel
    by_cases hlt : k < n
    · obtain ⟨b, off, rfl, hbl, hcell⟩ := hx (by omega)
      have hbs := hb.size
      have hkl : k < (marksH k0 n).length := by simpa using hlt
      have hcc := hcell k _ (List.getElem?_eq_getElem hkl)
      rw [marksH_get] at hcc
      have hc1 := (hb.cell (p := ⟨b, off + k * 2, none⟩) hbl).trans hcc.1
      have hc2 := (hb.cell (p := ⟨b, off + k * 2 + 1, none⟩) hbl).trans hcc.2
      simp only at hc1 hc2
      clear hcell hx hcc hkl
      have hki : (k : Int) < (n : Int) := by omega
      have HC1 : Hid (((k0 + k * 2 + 1 : Nat) : Int) = ((k0 + k * 2 : Nat) : Int) + 1) := Int.natCast_add _ 1
      have hbb := str_same (mtext (k0 + k * 2 + 1))
      have HC : ∀ W, Calls Tryd.prog 66 #[.int .i64 (((k0 + k * 2 : Nat) : Int) + 1)] W (RetStr W (mtext (k0 + k * 2 + 1))) := fun W => HC1.out ▸ markText_ret (k0 + k * 2 + 1) W (by omega) (by omega)
      generalize hm : k0 + k * 2 = m at *
      have hm1 : m + 2 ≤ 1000000000000 := by omega
      have HM := Lib.hid hm
      have hnn : ((m : Int) != (m : Int)) = false := by simp
      have HCC := Lib.hid HC
      clear hm HC
      go_wp2_with fail
      go_region_law ((go_simp; go_at_call 66; refine (HCC.out _).mono ?_; rintro e w' ⟨rfl, ht⟩; have d2 := cell_turn ht (show wr.drew.cell? _ = _ from hc2) (show b < wr.heap.size by omega)))
      all_goals
        have hb2 : Below w.heap.size w w' := ht.base (below_drewN hb 1) (by simp; omega) (by omega)
        go_wp2_with fail
        go_roundw
        case rel => exact ⟨k + 1, by omega, by go_num, by have := HM.out; go_num, hb2⟩
        case measure => simp [intOf]; omega
    · obtain rfl : k = n := by omega
      go_wp2_with fail
      go_ret
      exact ⟨rfl, TurnIn.of_below hb⟩

end Go.Proofs.YtipmfebnjmobfaaDoor
