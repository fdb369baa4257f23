/- GroupOf: the model's and the program's. -/
import Derived.Test.YtipmfebnjmobfaaGroupOf
set_option linter.unusedSimpArgs false
set_option linter.unusedVariables false
namespace Go.Proofs.Ytipmfebnjmobfaa
open Go.RowKit Go.Maps G294

theorem l4Group_any (g e q : Nat) (a : Int) (w : World) (hg : 1 ≤ g ∧ g ≤ 4) (he : 1 ≤ e ∧ e ≤ 4) : Calls Try.prog 19 #[.agg #[.int .i64 g, .int .i64 e, .int .i64 q], .int .i64 a] w (RetInt w (grpN (g * e) e g a)) := by
  have hbd := mul_bd (a := (g : Int)) (b := (e : Int)) (by omega) (by omega)
  rw [← Int.natCast_mul] at hbd
  have HGE : Hid ((g : Int) * (e : Int) = ((g * e : Nat) : Int)) := (Int.natCast_mul g e).symm
  by_cases h1 : 0 ≤ a ∧ a ≤ ((g * e : Nat) : Int) - 1
  · exact l4Group_A g e q (g * e) a w hg he (by omega) HGE h1
  · by_cases h2 : ((g * e : Nat) : Int) ≤ a ∧ a ≤ ((g * e : Nat) : Int) + g - 1
    · exact l4Group_B g e q (g * e) a w hg he (by omega) HGE h1 h2
    · exact l4Group_C g e q (g * e) a w hg he (by omega) HGE h1 h2

set_option maxRecDepth 100000 in
set_option maxHeartbeats 1000000 in
theorem sGroupOf_no (g e q a : Int) (w : World) (HN : Hid (locOk g e q = false)) : Calls Try.prog 9 #[locV g e q, .int .i64 a] w (RetIntOkB w 0 false) := by
  have a1 := turn_alloc w (.cells #[.int .i64 g, .int .i64 e, .int .i64 q] 25)
  have z1 := World.size_alloc w (.cells #[.int .i64 g, .int .i64 e, .int .i64 q] 25)
  go_enter Try.func9, Try.ntmps9
  go_wp2_with fail
  refine (sGoodLocal_any g e q _).mono ?_
  rintro e' w2 ⟨rfl, k2⟩
  rw [HN.out]
  go_wp2_with fail
  go_ret2
  exact ⟨rfl, turn_trans a1 k2 (by omega)⟩

set_option maxRecDepth 100000 in
set_option maxHeartbeats 1000000 in
theorem sGroupOf_neg (g e q : Nat) (a r : Int) (w : World) (hg : 1 ≤ g ∧ g ≤ 4) (he : 1 ≤ e ∧ e ≤ 4) (HL : Hid (locOk g e q = true)) (HR : Hid (grpN (g * e) e g a = r)) (hr : r < 0) : Calls Try.prog 9 #[locV g e q, .int .i64 a] w (RetIntOkB w 0 false) := by
  have a1 := turn_alloc w (.cells #[.int .i64 g, .int .i64 e, .int .i64 q] 25)
  have z1 := World.size_alloc w (.cells #[.int .i64 g, .int .i64 e, .int .i64 q] 25)
  have cg := alloc_tri0 w (.int .i64 g) (.int .i64 e) (.int .i64 q) 25
  have ce := alloc_tri1 w (.int .i64 g) (.int .i64 e) (.int .i64 q) 25
  have cq := alloc_tri2 w (.int .i64 g) (.int .i64 e) (.int .i64 q) 25
  have hrd : decide (r < 0) = true := by simpa using hr
  go_enter Try.func9, Try.ntmps9
  go_wp2_with fail
  refine (sGoodLocal_any (g : Int) (e : Int) (q : Int) _).mono ?_
  rintro e' w2 ⟨rfl, k2⟩
  rw [HL.out]
  have s2 := k2.size
  have dg := cell_keepT cg (by omega) k2 (by omega)
  have de := cell_keepT ce (by omega) k2 (by omega)
  have dq := cell_keepT cq (by omega) k2 (by omega)
  go_wp2_with fail
  refine (l4Group_any g e q a _ hg he).mono ?_
  rintro e' w3 ⟨rfl, k3⟩
  rw [HR.out]
  go_wp2_with fail
  go_ret2
  exact ⟨rfl, turn_trans (turn_trans a1 k2 (by omega)) k3 (by omega)⟩

set_option maxRecDepth 100000 in
set_option maxHeartbeats 1000000 in
theorem sGroupOf_yes (g e q : Nat) (a r : Int) (w : World) (hg : 1 ≤ g ∧ g ≤ 4) (he : 1 ≤ e ∧ e ≤ 4) (HL : Hid (locOk g e q = true)) (HR : Hid (grpN (g * e) e g a = r)) (hr : ¬ r < 0) : Calls Try.prog 9 #[locV g e q, .int .i64 a] w (RetIntOkB w r true) := by
  have a1 := turn_alloc w (.cells #[.int .i64 g, .int .i64 e, .int .i64 q] 25)
  have z1 := World.size_alloc w (.cells #[.int .i64 g, .int .i64 e, .int .i64 q] 25)
  have cg := alloc_tri0 w (.int .i64 g) (.int .i64 e) (.int .i64 q) 25
  have ce := alloc_tri1 w (.int .i64 g) (.int .i64 e) (.int .i64 q) 25
  have cq := alloc_tri2 w (.int .i64 g) (.int .i64 e) (.int .i64 q) 25
  have hrd : decide (r < 0) = false := by simpa using hr
  go_enter Try.func9, Try.ntmps9
  go_wp2_with fail
  refine (sGoodLocal_any (g : Int) (e : Int) (q : Int) _).mono ?_
  rintro e' w2 ⟨rfl, k2⟩
  rw [HL.out]
  have s2 := k2.size
  have dg := cell_keepT cg (by omega) k2 (by omega)
  have de := cell_keepT ce (by omega) k2 (by omega)
  have dq := cell_keepT cq (by omega) k2 (by omega)
  go_wp2_with fail
  refine (l4Group_any g e q a _ hg he).mono ?_
  rintro e' w3 ⟨rfl, k3⟩
  rw [HR.out]
  have s3 := k3.size
  have eg := cell_keepT dg (by omega) k3 (by omega)
  have ee := cell_keepT de (by omega) k3 (by omega)
  have eq' := cell_keepT dq (by omega) k3 (by omega)
  go_wp2_with fail
  refine (l4Group_any g e q a _ hg he).mono ?_
  rintro e' w4 ⟨rfl, k4⟩
  rw [HR.out]
  go_wp2_with fail
  go_ret2
  exact ⟨rfl, turn_trans (turn_trans (turn_trans a1 k2 (by omega)) k3 (by omega)) k4 (by omega)⟩

theorem sGroupOf_any (g e q a : Int) (w : World) : Calls Try.prog 9 #[locV g e q, .int .i64 a] w (RetIntOkB w (grpR g e q a) (grpOk g e q a)) := by
  by_cases h : locOk g e q = true
  · obtain ⟨⟨hg, he⟩, hq, -⟩ := locOk_b h
    obtain ⟨g, rfl⟩ := Int.eq_ofNat_of_zero_le (show 0 ≤ g by omega)
    obtain ⟨e, rfl⟩ := Int.eq_ofNat_of_zero_le (show 0 ≤ e by omega)
    obtain ⟨q, rfl⟩ := Int.eq_ofNat_of_zero_le (show 0 ≤ q by omega)
    by_cases hr : grpN (g * e) e g a < 0
    · have hok : grpOk g e q a = false := by rw [grpOk_yes h]; simp; omega
      rw [grpR_no hok, hok]
      exact sGroupOf_neg g e q a _ w (by omega) (by omega) h rfl hr
    · have hok : grpOk g e q a = true := by rw [grpOk_yes h]; simp; omega
      rw [grpR_yes hok, hok]
      exact sGroupOf_yes g e q a _ w (by omega) (by omega) h rfl hr
  · have h : locOk g e q = false := by simpa using h
    have hok : grpOk g e q a = false := by unfold grpOk; rw [h]; rfl
    rw [grpR_no hok, hok]
    exact sGroupOf_no g e q a w h

set_option maxRecDepth 100000 in
set_option maxHeartbeats 1000000 in
theorem groupOf_no (g e q a : Int) (w : World) (HN : Hid (locOk g e q = false)) : Calls Try.prog 10 #[locV g e q, .int .i64 a] w (RetIntOkB w 0 false) := by
  have a1 := turn_alloc w (.cells #[.int .i64 g, .int .i64 e, .int .i64 q] 25)
  have z1 := World.size_alloc w (.cells #[.int .i64 g, .int .i64 e, .int .i64 q] 25)
  go_enter Try.func10, Try.ntmps10
  go_wp2_with fail
  refine (goodLocal_any g e q _).mono ?_
  rintro e' w2 ⟨rfl, k2⟩
  rw [HN.out]
  go_wp2_with fail
  go_ret2
  exact ⟨rfl, turn_trans a1 k2 (by omega)⟩

end Go.Proofs.Ytipmfebnjmobfaa
