/- HelpersOf: the model's, everywhere. -/
import Derived.Test.YtlkoafnlklhaeaaDoorHelpers3
set_option linter.unusedSimpArgs false
set_option linter.unusedVariables false
namespace G294
theorem grp1_len (e d : Nat) (j : Int) : (grp1 e d j).length ≤ d := by
  unfold grp1; rw [List.length_map]; exact Nat.le_trans (List.length_filter_le _ _) (by simp)
theorem grp2_len (d e g : Nat) (j : Int) : (grp2 d e g j).length ≤ d + 1 := by
  unfold grp2
  have := grp1_len e d j
  rw [List.length_append]
  split <;> simp <;> omega
theorem hlpR_len (g e q a : Int) : (hlpR g e q a).length ≤ 1000 := by
  unfold hlpR
  split
  · rename_i hok
    have h : locOk g e q = true := by unfold grpOk at hok; simp at hok; exact hok.1
    have hb := (locOk_b h).2.2.2
    refine Nat.le_trans (notA_le _ _) (Nat.le_trans (grp2_len _ _ _ _) ?_)
    omega
  · simp
end G294
namespace Go.Proofs.YtlkoafnlklhaeaaDoor
open Go.RowKit Go.Maps G294

theorem sHelpersOf_any (g e q a : Int) (w : World) : Calls Tryd.prog 121 #[locV g e q, .int .i64 a] w (RetIntsOk 3 w (hlpR g e q a) (grpOk g e q a)) := by
  by_cases h : locOk g e q = true
  · obtain ⟨⟨hg, he⟩, hq, -⟩ := locOk_b h
    obtain ⟨g, rfl⟩ := Int.eq_ofNat_of_zero_le (show 0 ≤ g by omega)
    obtain ⟨e, rfl⟩ := Int.eq_ofNat_of_zero_le (show 0 ≤ e by omega)
    obtain ⟨q, rfl⟩ := Int.eq_ofNat_of_zero_le (show 0 ≤ q by omega)
    have hbd := mul_bd (a := (g : Int)) (b := (e : Int)) (by omega) (by omega)
    rw [← Int.natCast_mul] at hbd
    by_cases hr : grpN (g * e) e g a < 0
    · have hok : grpOk g e q a = false := by rw [grpOk_yes h]; simp; omega
      rw [hlpR_no hok, hok]
      exact sHelpersOf_neg g e q a _ w (by omega) (by omega) h rfl hr
    · have hok : grpOk g e q a = true := by rw [grpOk_yes h]; simp; omega
      have hr1 := grpN_lt (d := g * e) (e := e) (g := g) (by omega) rfl a
      obtain ⟨r, hr2⟩ := Int.eq_ofNat_of_zero_le (show 0 ≤ grpN (g * e) e g a by omega)
      have hm := mem4_grp (g := g) (e := e) (q := q) (r := r) (by omega) (by omega) (by omega) (by omega)
      rw [hlpR_yes hok, hok, hr2, ← hm]
      exact sHelpersOf_yes g e q (g * e) a (r : Int) w (by omega) (by omega) (by omega) (by omega) (Int.natCast_mul g e).symm rfl h hr2 (by omega)
  · have h : locOk g e q = false := by simpa using h
    have hok : grpOk g e q a = false := by unfold grpOk; rw [h]; rfl
    rw [hlpR_no hok, hok]
    exact sHelpersOf_bad g e q a w h

end Go.Proofs.YtlkoafnlklhaeaaDoor
