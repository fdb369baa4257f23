/- For every two stripes the program and the specification answer the same merged stripe, and it owns its memory. Conditions: the table impl.remainders holds the bytes that the program lays. -/
import Derived.Test.YtbopocpmodpfcaaDoorRows
import Derived.Test.YtbopocpmodpfcaaDoorTie
import Derived.Test.YtbopocpmodpfcaaDoorCards
import Derived.SevenTiedAt
import Derived.Test.YtbopocpmodpfcaaDoorBd00
import Derived.Test.YtbopocpmodpfcaaDoorWLawMergeStripes
set_option linter.unusedSimpArgs false
set_option linter.unusedVariables false
namespace Go.Proofs.YtbopocpmodpfcaaDoor.fnExactMergeStripes
open Go Go.ChangeShapes Go.WideShapes Go.ChangeAt Go.RowKit

theorem own : ownKnob Tryd.prog.godebug = none := by kernel_rfl
theorem laidOut : laidOutB Tryd.prog = true := by kernel_rfl
theorem fnSays {H : Type} (ds gs : List (DataW H)) (h1 : ds.length = Tryd.f8.params.toList.length) (h2 : gs.length = Rows.fnExactMergeStripesSpec.vars.length) :
    Rows.fnExactMergeStripesSpec.fn H (ds ++ gs) = { results := [.lit (.bool true)], args := ds, vars := gs } := by
  match ds, gs, h1, h2 with
  | [d1, d2], [g1], _, _ => rfl
theorem doorMet (os : Os) (args : Array Value) : laidMetH Tryd.prog Rows.fnExactMergeStripesRow.laid ((World.doorLaid Tryd.prog 400 os).forCall (fun _ _ => 0) ⟨#[], args, []⟩).memory :=
  laidMetH_of_parts3 (fuel := 8) (laidMet_of_run' 8 (by kernel_rfl) (by kernel_rfl)) (by kernel_rfl) (by kernel_rfl)

set_option maxRecDepth 100000 in
theorem lifted (os : Os) (started : os.Started) (H : Type) (enc : TypeId × Value → H) :
    ReturnsInHanded {} Tryd.checked os 8 .any (fun w args => (Rows.fnExactMergeStripesSpec.pre enc Tryd.prog Tryd.f8 [] false w args ∧ laidMetH Tryd.prog Rows.fnExactMergeStripesRow.laid w) ∧ sizedMet enc Tryd.prog Tryd.f8 (OpenSpec.ofChange Rows.fnExactMergeStripesSpec) false w args)
      (Rows.fnExactMergeStripesSpec.post enc Tryd.prog Tryd.f8 false true false false) := by
  refine returnsInHanded_of_change_and (C := Tryd.checked) (X := fun w _ => laidMetH Tryd.prog Rows.fnExactMergeStripesRow.laid w) (fun _ _ _ hh h => h.of_heap hh) own started (by kernel_rfl) Tryd.func8
    (ChangeSpec.witness_shaped (enc := enc) (C := Tryd.checked) (os := os) (X := fun w _ => laidMetH Tryd.prog Rows.fnExactMergeStripesRow.laid w) false (World.doorLaid Tryd.prog 400 os) #[.agg #[.slice none 0 0, .slice none 0 0], .agg #[.slice none 0 0, .slice none 0 0]] 8 rfl (World.shaped_of_RefB (by kernel_rfl) (by kernel_rfl)) (by kernel_rfl) (by kernel_rfl) (by kernel_rfl) (doorMet os _)) ?_
  intro W base args ds gs before hval hW _ _ hL _
  exact (walk_FnExactMergeStripes H enc W base args ds gs before hval hW hL).mono fun e W' ⟨he, hb⟩ => ⟨.bool true, he, G294.post_law laidOut (by kernel_rfl) (by kernel_rfl) (show Tryd.f8.resultTypes = #[4] from rfl) Tryd.underlying4 fnSays hW hb⟩

theorem rowHolds : Rows.FnExactMergeStripesSaid :=
  OpenClaim.holds_of_wide 8 Tryd.f8 rfl rfl rfl rfl rfl rfl rfl ⟨rfl, rfl, rfl, rfl, rfl⟩ rfl rfl rfl rfl rfl (by kernel_rfl) Tryd.func8 (by kernel_rfl)
    (of_decide_eq_true (by kernel_rfl)) (by unfold Func.isWrapper; first | (rw [if_pos (by decide +kernel)]; kernel_rfl) | (rw [if_neg (by decide +kernel)]; exact ⟨rfl, rfl⟩))
    (fun os started H enc _ => lifted os started H enc)
end Go.Proofs.YtbopocpmodpfcaaDoor.fnExactMergeStripes
namespace Go.Proofs.YtbopocpmodpfcaaDoor
open Go
/-- For every two stripes the program and the specification answer the same merged stripe, and it owns its memory. Conditions: the table impl.remainders holds the bytes that the program lays. -/
theorem proved_FnExactMergeStripes : Rows.FnExactMergeStripesCardSaid :=
  Claim7.holds_tied_plain_at .later [] [.data] true (true, "b902902e1dd568034d246b76e5becd905a48cb777670cdba97ecf57579c2d6c1") false
    fnExactMergeStripes.rowHolds (fun _ h => by cases h) (by kernel_rfl) (fun _ h => by cases h) fnExactMergeStripes_row_tie rfl ⟨rfl, rfl⟩ (by kernel_rfl) rfl
    (fun f fn hf hfn => by
      obtain rfl : f = 8 := Option.some.inj ((show Tryd.prog.funcNamed Rows.fnExactMergeStripesRow.func = some 8 by kernel_rfl).symm.trans hf) |>.symm
      obtain rfl : fn = Tryd.f8 := (Option.some.inj (Tryd.func8.symm.trans hfn)).symm
      exact ⟨by kernel_rfl, fun j t ht => by
        rw [Tryd.params8] at ht
        have hm : t ∈ [58, 58] := by simpa using Array.mem_of_getElem? ht
        have hall : ([58, 58].all fun u => !Tryd.prog.wantsStandIn u) = true := by kernel_rfl
        exact (show Tryd.prog.wantsStandIn t = false by simpa using List.all_eq_true.1 hall t hm)⟩)
    (by kernel_rfl)
#print axioms proved_FnExactMergeStripes
end Go.Proofs.YtbopocpmodpfcaaDoor
