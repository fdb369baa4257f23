/- For every two lists of bytes the law FnRebuilt returns true and leaves old memory as it was: a drawn shard that is rebuilt is the one that was, one wrong shard is seen where one more is there, and a drawn text comes back from its parts. Conditions: none. -/
import Derived.Test.YtbfchebnooanjaaDoorRows
import Derived.Test.YtbfchebnooanjaaDoorTie
import Derived.Test.YtbfchebnooanjaaDoorCards
import Derived.SevenTiedAt
import Derived.Test.YtbfchebnooanjaaDoorBd00
import Derived.Test.YtbfchebnooanjaaDoorWLawRebuilt
set_option linter.unusedSimpArgs false
set_option linter.unusedVariables false
namespace Go.Proofs.YtbfchebnooanjaaDoor.fnRebuilt
open Go Go.ChangeShapes Go.WideShapes Go.ChangeAt Go.RowKit

theorem own : ownKnob Tryd.prog.godebug = none := by kernel_rfl
theorem laidOut : laidOutB Tryd.prog = true := by kernel_rfl
theorem fnSays {H : Type} (ds gs : List (DataW H)) (h1 : ds.length = Tryd.f3.params.toList.length) (h2 : gs.length = Rows.fnRebuiltSpec.vars.length) :
    Rows.fnRebuiltSpec.fn H (ds ++ gs) = { results := [.lit (.bool true)], args := ds, vars := gs } := by
  match ds, gs, h1, h2 with
  | [d1, d2], [g1], _, _ => rfl
theorem doorMet (os : Os) (args : Array Value) : laidMetH Tryd.prog Rows.fnRebuiltRow.laid ((World.doorLaid Tryd.prog 400 os).forCall (fun _ _ => 0) ⟨#[], args, []⟩).memory :=
  laidMetH_of_parts3 (fuel := 8) (laidMet_of_run' 8 (by kernel_rfl) (by kernel_rfl)) (by kernel_rfl) (by kernel_rfl)

set_option maxRecDepth 100000 in
theorem lifted (os : Os) (started : os.Started) (H : Type) (enc : TypeId × Value → H) :
    ReturnsInHanded {} Tryd.checked os 3 .any (fun w args => (Rows.fnRebuiltSpec.pre enc Tryd.prog Tryd.f3 [] false w args ∧ laidMetH Tryd.prog Rows.fnRebuiltRow.laid w) ∧ sizedMet enc Tryd.prog Tryd.f3 (OpenSpec.ofChange Rows.fnRebuiltSpec) false w args)
      (Rows.fnRebuiltSpec.post enc Tryd.prog Tryd.f3 false true false false) := by
  refine returnsInHanded_of_change_and (C := Tryd.checked) (X := fun w _ => laidMetH Tryd.prog Rows.fnRebuiltRow.laid w) (fun _ _ _ hh h => h.of_heap hh) own started (by kernel_rfl) Tryd.func3
    (ChangeSpec.witness_shaped (enc := enc) (C := Tryd.checked) (os := os) (X := fun w _ => laidMetH Tryd.prog Rows.fnRebuiltRow.laid w) false (World.doorLaid Tryd.prog 400 os) #[.slice none 0 0, .slice none 0 0] 8 rfl (World.shaped_of_RefB (by kernel_rfl) (by kernel_rfl)) (by kernel_rfl) (by kernel_rfl) (by kernel_rfl) (doorMet os _)) ?_
  intro W base args ds gs before hval hW _ _ hL _
  exact (walk_FnRebuilt H enc W base args ds gs before hval hW hL).mono fun e W' ⟨he, hb⟩ => ⟨.bool true, he, G294.post_law laidOut (by kernel_rfl) (by kernel_rfl) (show Tryd.f3.resultTypes = #[4] from rfl) Tryd.underlying4 fnSays hW hb⟩

theorem rowHolds : Rows.FnRebuiltSaid :=
  OpenClaim.holds_of_wide 3 Tryd.f3 rfl rfl rfl rfl rfl rfl rfl ⟨rfl, rfl, rfl, rfl, rfl⟩ rfl rfl rfl rfl rfl (by kernel_rfl) Tryd.func3 (by kernel_rfl)
    (of_decide_eq_true (by kernel_rfl)) (by unfold Func.isWrapper; first | (rw [if_pos (by decide +kernel)]; kernel_rfl) | (rw [if_neg (by decide +kernel)]; exact ⟨rfl, rfl⟩))
    (fun os started H enc _ => lifted os started H enc)
end Go.Proofs.YtbfchebnooanjaaDoor.fnRebuilt
namespace Go.Proofs.YtbfchebnooanjaaDoor
open Go
/-- For every two lists of bytes the law FnRebuilt returns true and leaves old memory as it was: a drawn shard that is rebuilt is the one that was, one wrong shard is seen where one more is there, and a drawn text comes back from its parts. Conditions: none. -/
theorem proved_FnRebuilt : Rows.FnRebuiltCardSaid :=
  Claim7.holds_tied_plain_at .later [] [.data] true (true, "c636647f37d3cadc0bcd5400dfec5e432eb728acc7e81186c9e66e9f202d02dd") false
    fnRebuilt.rowHolds (fun _ h => by cases h) (by kernel_rfl) (fun _ h => by cases h) fnRebuilt_row_tie rfl ⟨rfl, rfl⟩ (by kernel_rfl) rfl
    (fun f fn hf hfn => by
      obtain rfl : f = 3 := Option.some.inj ((show Tryd.prog.funcNamed Rows.fnRebuiltRow.func = some 3 by kernel_rfl).symm.trans hf) |>.symm
      obtain rfl : fn = Tryd.f3 := (Option.some.inj (Tryd.func3.symm.trans hfn)).symm
      exact ⟨by kernel_rfl, fun j t ht => by
        rw [Tryd.params3] at ht
        have hm : t ∈ [22, 22] := by simpa using Array.mem_of_getElem? ht
        have hall : ([22, 22].all fun u => !Tryd.prog.wantsStandIn u) = true := by kernel_rfl
        exact (show Tryd.prog.wantsStandIn t = false by simpa using List.all_eq_true.1 hall t hm)⟩)
    (by kernel_rfl)
#print axioms proved_FnRebuilt
end Go.Proofs.YtbfchebnooanjaaDoor
