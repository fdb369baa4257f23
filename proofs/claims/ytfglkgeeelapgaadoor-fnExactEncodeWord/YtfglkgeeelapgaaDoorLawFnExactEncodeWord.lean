/- For every slice of bytes and every t, the program EncodeWord answers as its model, every field, changes no argument, and its answer owns its memory. Conditions: none beyond the row as printed (the package-level variables that it lists hold what the program lays). -/
import Derived.Test.YtfglkgeeelapgaaDoorRows
import Derived.Test.YtfglkgeeelapgaaDoorTie
import Derived.Test.YtfglkgeeelapgaaDoorCards
import Derived.SevenTiedAt
import Derived.Test.YtfglkgeeelapgaaDoorFrame
import Derived.Test.YtfglkgeeelapgaaDoorLawEncodeWord
set_option linter.unusedSimpArgs false
set_option linter.unusedVariables false
namespace Go.Proofs.YtfglkgeeelapgaaDoor.fnExactEncodeWord
open Go Go.ChangeShapes Go.WideShapes Go.ChangeAt Go.RowKit

theorem own : ownKnob Tryd.prog.godebug = none := by kernel_rfl
theorem laidOut : laidOutB Tryd.prog = true := by kernel_rfl
theorem fnSays {H : Type} (ds gs : List (DataW H)) (h1 : ds.length = Tryd.f6.params.toList.length) (h2 : gs.length = Rows.fnExactEncodeWordSpec.vars.length) :
    Rows.fnExactEncodeWordSpec.fn H (ds ++ gs) = { results := [.lit (.bool true)], args := ds, vars := gs } := by
  match ds, gs, h1, h2 with
  | [d1, d2], [g1], _, _ => rfl
theorem doorMet (os : Os) (args : Array Value) : laidMetH Tryd.prog Rows.fnExactEncodeWordRow.laid ((World.doorLaid Tryd.prog 400 os).forCall (fun _ _ => 0) ⟨#[], args, []⟩).memory :=
  laidMetH_of_parts3 (fuel := 8) (laidMet_of_run' 8 (by kernel_rfl) (by kernel_rfl)) (by kernel_rfl) (by kernel_rfl)

set_option maxRecDepth 100000 in
theorem lifted (os : Os) (started : os.Started) (H : Type) (enc : TypeId × Value → H) :
    ReturnsInHanded {} Tryd.checked os 6 .any (fun w args => (Rows.fnExactEncodeWordSpec.pre enc Tryd.prog Tryd.f6 [] false w args ∧ laidMetH Tryd.prog Rows.fnExactEncodeWordRow.laid w) ∧ sizedMet enc Tryd.prog Tryd.f6 (OpenSpec.ofChange Rows.fnExactEncodeWordSpec) false w args)
      (Rows.fnExactEncodeWordSpec.post enc Tryd.prog Tryd.f6 false true false false) := by
  refine returnsInHanded_of_change_and (C := Tryd.checked) (X := fun w _ => laidMetH Tryd.prog Rows.fnExactEncodeWordRow.laid w) (fun _ _ _ hh h => h.of_heap hh) own started (by kernel_rfl) Tryd.func6
    (ChangeSpec.witness_shaped (enc := enc) (C := Tryd.checked) (os := os) (X := fun w _ => laidMetH Tryd.prog Rows.fnExactEncodeWordRow.laid w) false (World.doorLaid Tryd.prog 400 os) #[.slice none 0 0, .int .i64 0] 8 rfl (World.shaped_of_RefB (by kernel_rfl) (by kernel_rfl)) (by kernel_rfl) (by kernel_rfl) (by kernel_rfl) (doorMet os _)) ?_
  intro W base args ds gs before hval hW _ _ hL _
  exact (walk_FnExactEncodeWord H enc W base args ds gs before hval hW hL).mono fun e W' ⟨he, hb⟩ => ⟨.bool true, he, G294.post_law laidOut (by kernel_rfl) (by kernel_rfl) (show Tryd.f6.resultTypes = #[4] from rfl) Tryd.underlying4 fnSays hW hb⟩

theorem rowHolds : Rows.FnExactEncodeWordSaid :=
  OpenClaim.holds_of_wide 6 Tryd.f6 rfl rfl rfl rfl rfl rfl rfl ⟨rfl, rfl, rfl, rfl, rfl⟩ rfl rfl rfl rfl rfl (by kernel_rfl) Tryd.func6 (by kernel_rfl)
    (of_decide_eq_true (by kernel_rfl)) (by unfold Func.isWrapper; first | (rw [if_pos (by decide +kernel)]; kernel_rfl) | (rw [if_neg (by decide +kernel)]; exact ⟨rfl, rfl⟩))
    (fun os started H enc _ => lifted os started H enc)
end Go.Proofs.YtfglkgeeelapgaaDoor.fnExactEncodeWord
namespace Go.Proofs.YtfglkgeeelapgaaDoor
open Go
/-- For every slice of bytes and every t, the program EncodeWord answers as its model, every field, changes no argument, and its answer owns its memory. Conditions: none beyond the row as printed (the package-level variables that it lists hold what the program lays). -/
theorem proved_FnExactEncodeWord : Rows.FnExactEncodeWordCardSaid :=
  Claim7.holds_tied_plain_at .later [] [.data] true (true, "cd8bacb933dba6765e4ac8494e809f4a0d96ecd5b5cb287593ef44225ed95d75") true
    fnExactEncodeWord.rowHolds (fun _ h => by cases h) (by kernel_rfl) (fun _ h => by cases h) fnExactEncodeWord_row_tie rfl ⟨rfl, rfl⟩ (by kernel_rfl) rfl
    (fun f fn hf hfn => by
      obtain rfl : f = 6 := Option.some.inj ((show Tryd.prog.funcNamed Rows.fnExactEncodeWordRow.func = some 6 by kernel_rfl).symm.trans hf) |>.symm
      obtain rfl : fn = Tryd.f6 := (Option.some.inj (Tryd.func6.symm.trans hfn)).symm
      exact ⟨by kernel_rfl, fun j t ht => by
        rw [Tryd.params6] at ht
        have hm : t ∈ [22, 3] := by simpa using Array.mem_of_getElem? ht
        have hall : ([22, 3].all fun u => !Tryd.prog.wantsStandIn u) = true := by kernel_rfl
        exact (show Tryd.prog.wantsStandIn t = false by simpa using List.all_eq_true.1 hall t hm)⟩)
    (by kernel_rfl)
#print axioms proved_FnExactEncodeWord
end Go.Proofs.YtfglkgeeelapgaaDoor
