/- For every pair of byte lists the law answers true: the text that is drawn from the first one comes back from its runs, and these from their encoding, which is at most half as long again as the text, and the encoding that is drawn from the second one gives the runs that the document describes, or none, and the law leaves the memory of before as it was. Conditions: none. -/
import Derived.Test.YtdbgkpmdimapdaaRows
import Derived.Test.YtdbgkpmdimapdaaBd00
import Derived.Test.YtdbgkpmdimapdaaWLawRuns
set_option linter.unusedSimpArgs false
set_option linter.unusedVariables false
namespace Go.Proofs.Ytdbgkpmdimapdaa.fnRuns
open Go Go.ChangeShapes Go.WideShapes Go.ChangeAt Go.RowKit

theorem own : ownKnob Try.prog.godebug = none := by kernel_rfl
theorem laidOut : laidOutB Try.prog = true := by kernel_rfl
theorem fnSays {H : Type} (ds gs : List (DataW H)) (h1 : ds.length = Try.f5.params.toList.length) (h2 : gs.length = Rows.fnRunsSpec.vars.length) :
    Rows.fnRunsSpec.fn H (ds ++ gs) = { results := [.lit (.bool true)], args := ds, vars := gs } := by
  match ds, gs, h1, h2 with
  | [d1, d2], [], _, _ => rfl
set_option maxRecDepth 100000 in
theorem lifted (os : Os) (started : os.Started) (H : Type) (enc : TypeId × Value → H) :
    ReturnsInHanded {} Try.checked os 5 .any (Rows.fnRunsSpec.pre6 enc Try.prog Try.f5 Rows.fnRunsRow.domain false) (Rows.fnRunsSpec.post enc Try.prog Try.f5 false true false false) := by
  refine returnsInHanded_of_change (C := Try.checked) own started (by kernel_rfl) Try.func5
    (ChangeSpec.witness6 (enc := enc) (C := Try.checked) false ⟨#[], #[.slice none 0 0, .slice none 0 0], []⟩ 8 (by kernel_rfl) (by kernel_rfl) (by kernel_rfl) (by kernel_rfl)) ?_
  intro W base args ds gs before hval hW _ _
  exact (walk_FnRuns H enc W base args ds gs before hval hW trivial).mono fun e W' ⟨he, hb⟩ => ⟨.bool true, he, G294.post_law laidOut (by kernel_rfl) (by kernel_rfl) (show Try.f5.resultTypes = #[4] from rfl) Try.underlying4 fnSays hW hb⟩

theorem rowHolds : Rows.FnRunsSaid :=
  OpenClaim.holds_of_wide 5 Try.f5 rfl rfl rfl rfl rfl rfl rfl ⟨rfl, rfl, rfl, rfl, rfl⟩ rfl rfl rfl rfl rfl (by kernel_rfl) Try.func5 (by kernel_rfl)
    (of_decide_eq_true (by kernel_rfl)) (by unfold Func.isWrapper; first | (rw [if_pos (by decide +kernel)]; kernel_rfl) | (rw [if_neg (by decide +kernel)]; exact ⟨rfl, rfl⟩))
    (fun os started H enc _ => lifted os started H enc)
end Go.Proofs.Ytdbgkpmdimapdaa.fnRuns
namespace Go.Proofs.Ytdbgkpmdimapdaa
open Go
/-- For every pair of byte lists the law answers true: the text that is drawn from the first one comes back from its runs, and these from their encoding, which is at most half as long again as the text, and the encoding that is drawn from the second one gives the runs that the document describes, or none, and the law leaves the memory of before as it was. Conditions: none. -/
theorem proved_FnRuns : Rows.FnRunsSaid := fnRuns.rowHolds
#print axioms proved_FnRuns
end Go.Proofs.Ytdbgkpmdimapdaa
