/- For all texts, UnpackRuns returns exactly what the model returns, panics never, changes no argument and returns a list of its own. Conditions: none. -/
import Derived.Test.YtdbgkpmdimapdaaRows
import Derived.Test.YtdbgkpmdimapdaaFrame
import Derived.Test.YtdbgkpmdimapdaaLawUnpackRuns
set_option linter.unusedSimpArgs false
set_option linter.unusedVariables false
namespace Go.Proofs.Ytdbgkpmdimapdaa.fnExactUnpackRuns
open Go Go.ChangeShapes Go.WideShapes Go.ChangeAt Go.RowKit

theorem own : ownKnob Try.prog.godebug = none := by kernel_rfl
theorem laidOut : laidOutB Try.prog = true := by kernel_rfl
theorem fnSays {H : Type} (ds gs : List (DataW H)) (h1 : ds.length = Try.f13.params.toList.length) (h2 : gs.length = Rows.fnExactUnpackRunsSpec.vars.length) :
    Rows.fnExactUnpackRunsSpec.fn H (ds ++ gs) = { results := [.lit (.bool true)], args := ds, vars := gs } := by
  match ds, gs, h1, h2 with
  | [d1], [], _, _ => rfl
set_option maxRecDepth 100000 in
theorem lifted (os : Os) (started : os.Started) (H : Type) (enc : TypeId × Value → H) :
    ReturnsInHanded {} Try.checked os 13 .any (Rows.fnExactUnpackRunsSpec.pre6 enc Try.prog Try.f13 Rows.fnExactUnpackRunsRow.domain false) (Rows.fnExactUnpackRunsSpec.post enc Try.prog Try.f13 false true false false) := by
  refine returnsInHanded_of_change (C := Try.checked) own started (by kernel_rfl) Try.func13
    (ChangeSpec.witness6 (enc := enc) (C := Try.checked) false ⟨#[], #[.string (ByteArray.mk #[])], []⟩ 8 (by kernel_rfl) (by kernel_rfl) (by kernel_rfl) (by kernel_rfl)) ?_
  intro W base args ds gs before hval hW _ _
  exact (walk_FnExactUnpackRuns H enc W base args ds gs before hval hW trivial).mono fun e W' ⟨he, hb⟩ => ⟨.bool true, he, G294.post_law laidOut (by kernel_rfl) (by kernel_rfl) (show Try.f13.resultTypes = #[4] from rfl) Try.underlying4 fnSays hW hb⟩

theorem rowHolds : Rows.FnExactUnpackRunsSaid :=
  OpenClaim.holds_of_wide 13 Try.f13 rfl rfl rfl rfl rfl rfl rfl ⟨rfl, rfl, rfl, rfl, rfl⟩ rfl rfl rfl rfl rfl (by kernel_rfl) Try.func13 (by kernel_rfl)
    (of_decide_eq_true (by kernel_rfl)) (by unfold Func.isWrapper; first | (rw [if_pos (by decide +kernel)]; kernel_rfl) | (rw [if_neg (by decide +kernel)]; exact ⟨rfl, rfl⟩))
    (fun os started H enc _ => lifted os started H enc)
end Go.Proofs.Ytdbgkpmdimapdaa.fnExactUnpackRuns
namespace Go.Proofs.Ytdbgkpmdimapdaa
open Go
/-- For all texts, UnpackRuns returns exactly what the model returns, panics never, changes no argument and returns a list of its own. Conditions: none. -/
theorem proved_FnExactUnpackRuns : Rows.FnExactUnpackRunsSaid := fnExactUnpackRuns.rowHolds
#print axioms proved_FnExactUnpackRuns
end Go.Proofs.Ytdbgkpmdimapdaa
