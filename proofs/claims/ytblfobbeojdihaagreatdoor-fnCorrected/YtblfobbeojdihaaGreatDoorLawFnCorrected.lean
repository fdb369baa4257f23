/- FnCorrected holds for all data and errors: a word with at most t wrong bytes is corrected. Conditions: what start-up lays in remainders, in the sentinels and in errors.errorType, tied. -/
import Derived.Test.YtblfobbeojdihaaGreatDoorRows
import Derived.Test.YtblfobbeojdihaaGreatDoorTie
import Derived.Test.YtblfobbeojdihaaGreatDoorCards
import Derived.SevenTiedAt
import Derived.Test.YtblfobbeojdihaaGreatDoorBd00
import Derived.Test.YtblfobbeojdihaaGreatDoorWLawCorrected
set_option linter.unusedSimpArgs false
set_option linter.unusedVariables false
namespace Go.Proofs.YtblfobbeojdihaaGreatDoor.fnCorrected
open Go Go.ChangeShapes Go.WideShapes Go.ChangeAt Go.RowKit

theorem own : ownKnob Tryz.prog.godebug = none := by kernel_rfl
theorem laidOut : laidOutB Tryz.prog = true := by kernel_rfl
theorem fnSays {H : Type} (ds gs : List (DataW H)) (h1 : ds.length = Tryz.f3.params.toList.length) (h2 : gs.length = Rows.fnCorrectedSpec.vars.length) :
    Rows.fnCorrectedSpec.fn H (ds ++ gs) = { results := [.lit (.bool true)], args := ds, vars := gs } := by
  match ds, gs, h1, h2 with
  | [d1, d2], [g1, g2, g3], _, _ => rfl
theorem doorMet (os : Os) (args : Array Value) : laidMetH Tryz.prog Rows.fnCorrectedRow.laid ((World.doorLaid Tryz.prog 400 os).forCall (fun _ _ => 0) ⟨#[], args, []⟩).memory :=
  laidMetH_of_parts3 (fuel := 8) (laidMet_of_run' 8 (by kernel_rfl) (by kernel_rfl)) (by kernel_rfl) (by kernel_rfl)

set_option maxRecDepth 100000 in
theorem lifted (os : Os) (started : os.Started) (H : Type) (enc : TypeId × Value → H) :
    ReturnsInHanded {} Tryz.checked os 3 .any (fun w args => (Rows.fnCorrectedSpec.pre enc Tryz.prog Tryz.f3 [] false w args ∧ laidMetH Tryz.prog Rows.fnCorrectedRow.laid w) ∧ sizedMet enc Tryz.prog Tryz.f3 (OpenSpec.ofChange Rows.fnCorrectedSpec) false w args)
      (Rows.fnCorrectedSpec.post enc Tryz.prog Tryz.f3 false true false false) := by
  refine returnsInHanded_of_change_and (C := Tryz.checked) (X := fun w _ => laidMetH Tryz.prog Rows.fnCorrectedRow.laid w) (fun _ _ _ hh h => h.of_heap hh) own started (by kernel_rfl) Tryz.func3
    (ChangeSpec.witness_shaped (enc := enc) (C := Tryz.checked) (os := os) (X := fun w _ => laidMetH Tryz.prog Rows.fnCorrectedRow.laid w) false (World.doorLaid Tryz.prog 400 os) #[.slice none 0 0, .slice none 0 0] 8 rfl (World.shaped_of_RefB (by kernel_rfl) (by kernel_rfl)) (by kernel_rfl) (by kernel_rfl) (by kernel_rfl) (doorMet os _)) ?_
  intro W base args ds gs before hval hW _ _ hL _
  exact (walk_FnCorrected H enc W base args ds gs before hval hW hL).mono fun e W' ⟨he, hb⟩ => ⟨.bool true, he, G294.post_law laidOut (by kernel_rfl) (by kernel_rfl) (show Tryz.f3.resultTypes = #[4] from rfl) Tryz.underlying4 fnSays hW hb⟩

theorem rowHolds : Rows.FnCorrectedSaid :=
  OpenClaim.holds_of_wide 3 Tryz.f3 rfl rfl rfl rfl rfl rfl rfl ⟨rfl, rfl, rfl, rfl, rfl⟩ rfl rfl rfl rfl rfl (by kernel_rfl) Tryz.func3 (by kernel_rfl)
    (of_decide_eq_true (by kernel_rfl)) (by unfold Func.isWrapper; first | (rw [if_pos (by decide +kernel)]; kernel_rfl) | (rw [if_neg (by decide +kernel)]; exact ⟨rfl, rfl⟩))
    (fun os started H enc _ => lifted os started H enc)
end Go.Proofs.YtblfobbeojdihaaGreatDoor.fnCorrected
namespace Go.Proofs.YtblfobbeojdihaaGreatDoor
open Go
/-- FnCorrected holds for all data and errors: a word with at most t wrong bytes is corrected. Conditions: what start-up lays in remainders, in the sentinels and in errors.errorType, tied. -/
theorem proved_FnCorrected : Rows.FnCorrectedCardSaid :=
  Claim7.holds_tied_plain_at .later [] [.handle, .data, .sentinel, .sentinel] true (true, "068534ee4ff13b2a34c118ad40627f3b75a09fa50ca79c348927a6199a3554a8") true
    fnCorrected.rowHolds (fun _ h => by cases h) (by kernel_rfl) (fun _ h => by cases h) fnCorrected_row_tie rfl ⟨rfl, rfl⟩ (by kernel_rfl) rfl
    (fun f fn hf hfn => by
      obtain rfl : f = 3 := Option.some.inj ((show Tryz.prog.funcNamed Rows.fnCorrectedRow.func = some 3 by kernel_rfl).symm.trans hf) |>.symm
      obtain rfl : fn = Tryz.f3 := (Option.some.inj (Tryz.func3.symm.trans hfn)).symm
      exact ⟨by kernel_rfl, fun j t ht => by
        rw [Tryz.params3] at ht
        have hm : t ∈ [22, 22] := by simpa using Array.mem_of_getElem? ht
        have hall : ([22, 22].all fun u => !Tryz.prog.wantsStandIn u) = true := by kernel_rfl
        exact (show Tryz.prog.wantsStandIn t = false by simpa using List.all_eq_true.1 hall t hm)⟩)
    (by kernel_rfl)
#print axioms proved_FnCorrected
end Go.Proofs.YtblfobbeojdihaaGreatDoor
