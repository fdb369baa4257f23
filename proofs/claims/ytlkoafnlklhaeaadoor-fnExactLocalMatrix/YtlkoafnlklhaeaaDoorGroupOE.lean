/- GroupOf: the program's, at a good code. -/
import Derived.Test.YtlkoafnlklhaeaaDoorGroupOD
set_option linter.unusedSimpArgs false
set_option linter.unusedVariables false
namespace G294
/-- what GroupOf answers for a group's number -/
def RetGrp (w : Go.World) (r : Int) (e : Go.Ending) (w' : Go.World) : Prop := (r < 0 → RetIntOkB w 0 false e w') ∧ (0 ≤ r → RetIntOkB w r true e w')
end G294
namespace Go.Proofs.YtlkoafnlklhaeaaDoor
open Go.RowKit Go.Maps G294

set_option maxRecDepth 100000 in
set_option maxHeartbeats 2000000 in
theorem groupOf_good (g e q : Nat) (a r : Int) (w : World) (hg : 1 ≤ g ∧ g ≤ 4) (he : 1 ≤ e ∧ e ≤ 4) (HL : Hid (locOk g e q = true)) (HR : Hid (grpN (g * e) e g a = r)) : Calls Tryd.prog 172 #[locV g e q, .int .i64 a] w (RetGrp w r) := by
  have a1 := turn_alloc w (.cells #[.int .i64 g, .int .i64 e, .int .i64 q] 73)
  have z1 := World.size_alloc w (.cells #[.int .i64 g, .int .i64 e, .int .i64 q] 73)
  have cg := alloc_tri0 w (.int .i64 g) (.int .i64 e) (.int .i64 q) 73
  have ce := alloc_tri1 w (.int .i64 g) (.int .i64 e) (.int .i64 q) 73
  have cq := alloc_tri2 w (.int .i64 g) (.int .i64 e) (.int .i64 q) 73
  have hbd := mul_bd (a := (g : Int)) (b := (e : Int)) (by omega) (by omega)
  rw [← Int.natCast_mul] at hbd
  have HLT : Hid (r < (g : Int)) := by show r < _; rw [← HR.out]; exact grpN_lt he.1 rfl a
  have HME : Hid (∀ i : Nat, i < g → (a ∈ grp2 (g * e) e g (i : Int) ↔ r = (i : Int))) := fun i hi => by rw [← HR.out]; exact mem_grp he.1 rfl a i hi
  have HKEY : Hid (∀ x : Int, grp2 (g * e) e g x ≠ [] ↔ 0 ≤ x ∧ x < (g : Int)) := fun x => grp_key rfl he.1 x
  have HNN : Hid (g * e + g ≤ 1000) := by show g * e + g ≤ 1000; omega
  clear hbd
  go_enter Tryd.func172, Tryd.ntmps172
  go_wp2_with fail
  refine (goodLocal_any (g : Int) (e : Int) (q : Int) _).mono ?_
  rintro e' w2 ⟨rfl, k2⟩
  rw [HL.out]
  have s2 := k2.size
  have dg := cell_keepT cg (by omega) k2 (by omega)
  have de := cell_keepT ce (by omega) k2 (by omega)
  have dq := cell_keepT cq (by omega) k2 (by omega)
  clear cg ce cq
  go_wp2_with fail
  refine (groupsOf_own g e q _ hg he).mono ?_
  rintro e' w3 ⟨B, D, rfl, hB, hown, hG, k3⟩
  have s3 := k3.size
  have HG := Lib.hid hG
  have HOWN := Lib.hid hown
  clear hG hown dg de dq
  go_wp2_with fail
  refine (sortedGroups_own B (g * e + g) g D _ _ HOWN.out HG.out HKEY.out HNN.out hg.1).mono ?_
  rintro e' w4 ⟨v, rfl, hv, k4⟩
  have s4 := k4.size
  have HO4 : Hid (w4.ownsGroups Tryd.prog 3 (B + 1) 3 .i64 B (g * e + g) D) := ownsGroups_turn HOWN.out k4
  have HT : Hid (TurnIn 0 0 w w4) := turn_trans (turn_trans (turn_trans a1 k2 (by omega)) k3 (by omega)) k4 (by omega)
  obtain ⟨A, c, rfl, hlc, hcm, hx⟩ := hv.seen
  simp only [ints_length, List.length_map, List.length_range] at hlc hx ⊢
  unfold maxLen at hcm
  obtain ⟨b, off, rfl, hbl, hcell⟩ := hx (by omega)
  have HC : Hid (∀ k : Nat, k < g → w4.cell? ⟨b, off + k, none⟩ = some (.int .i64 k)) := fun k hk => hcell k _ (by simp [ints, hk])
  clear hx hcell hv a1 k2 k3 k4
  go_wp2_with fail
  go_loop [17] (fun i => ∃ k : Nat, k ≤ g ∧ i = .int .i64 k ∧ Hid (∀ j : Nat, j < k → r ≠ (j : Int))) (fun i => g - (intOf i).toNat)
  case atStart => exact ⟨0, Nat.zero_le _, rfl, fun j hj => by omega⟩
  case round =>
    obtain ⟨k, hk, rfl, HK⟩ := hrel
    by_cases hlt : k < g
    · have hki : (k : Int) < (g : Int) := by omega
      have hcx := HC.out k hlt
      have hwf : (Lit.int .i64 (k : Int)).wf = true := WalkArith.wf_i64 (by omega)
      obtain ⟨v, zs, hrun, hat, hoi, hzl, hback⟩ := groups_look HO4.out lawInt Tryd.underlying141 zeroInts (by have := HNN.out; unfold maxLen; omega) (keyOf_int_mk Tryd.underlying3 hwf)
      have hzs := HG.out.looked hat hoi
      have hlk := hrun _ rfl
      have HSE : Hid (Seen w4 v (ints zs)) := Seen.of_own hoi.1
      have HZS := Lib.hid hzs
      clear hrun hat hoi hzl hback hzs hwf
      go_wp2_with fail
      refine (containsInts_any v zs a _ HSE.out).mono ?_
      rintro e' w' ⟨rfl, rfl⟩
      by_cases hr : r = (k : Int)
      · have HB : Hid (zs.contains a = true) := by show zs.contains a = true; rw [HZS.out, List.contains_iff_mem]; exact (HME.out k hlt).2 hr
        rw [HB.out]
        go_wp2_with fail
        go_ret2
        exact ⟨fun h => by omega, fun _ => ⟨by rw [hr]; rfl, HT.out⟩⟩
      · have HB : Hid (zs.contains a = false) := by show zs.contains a = false; rw [HZS.out, ← Bool.not_eq_true, List.contains_iff_mem]; exact fun h => hr ((HME.out k hlt).1 h)
        rw [HB.out]
        have HNR := Lib.hid hr
        clear hr
        go_wp2_with fail
        go_round
        case rel => exact ⟨k + 1, by omega, by go_num, fun j hj => by
          by_cases e1 : j < k
          · exact HK.out j e1
          · obtain rfl : j = k := by omega
            exact HNR.out⟩
        case measure => simp [intOf]; omega
    · obtain rfl : k = g := by omega
      have hki : ¬ (k : Int) < (k : Int) := by omega
      go_wp2_with fail
      go_ret2
      exact ⟨fun _ => ⟨rfl, HT.out⟩, fun h => absurd (by have := HLT.out; omega) (HK.out r.toNat (by have := HLT.out; omega))⟩

theorem groupOf_any (g e q a : Int) (w : World) : Calls Tryd.prog 172 #[locV g e q, .int .i64 a] w (RetIntOkB w (grpR g e q a) (grpOk g e q a)) := by
  by_cases h : locOk g e q = true
  · obtain ⟨⟨hg, he⟩, hq, -⟩ := locOk_b h
    obtain ⟨g, rfl⟩ := Int.eq_ofNat_of_zero_le (show 0 ≤ g by omega)
    obtain ⟨e, rfl⟩ := Int.eq_ofNat_of_zero_le (show 0 ≤ e by omega)
    obtain ⟨q, rfl⟩ := Int.eq_ofNat_of_zero_le (show 0 ≤ q by omega)
    refine (groupOf_good g e q a _ w (by omega) (by omega) h rfl).mono ?_
    rintro r w' ⟨h1, h2⟩
    by_cases hr : grpN (g * e) e g a < 0
    · have hok : grpOk g e q a = false := by rw [grpOk_yes h]; simp; omega
      rw [grpR_no hok, hok]
      exact h1 hr
    · have hok : grpOk g e q a = true := by rw [grpOk_yes h]; simp; omega
      rw [grpR_yes hok, hok]
      exact h2 (by omega)
  · have h : locOk g e q = false := by simpa using h
    have hok : grpOk g e q a = false := by unfold grpOk; rw [h]; rfl
    rw [grpR_no hok, hok]
    exact groupOf_no g e q a w h

end Go.Proofs.YtlkoafnlklhaeaaDoor
