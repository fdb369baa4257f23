/- At every argument TakeDelta answers as its specification, modifies nothing and returns always. Conditions: none. -/
import Derived.Test.YtlhipceepoenfaaDoorRows
import Derived.Test.YtlhipceepoenfaaDoorTie
import Derived.Test.YtlhipceepoenfaaDoorCards
import Derived.SevenTiedAt
import Derived.Lay
import Derived.LaidOnce
import Derived.Test.YtlhipceepoenfaaDoorFrame
import Derived.Test.YtlhipceepoenfaaDoorLawTakeDelta
set_option linter.unusedSimpArgs false
set_option linter.unusedVariables false
namespace Go.Proofs.YtlhipceepoenfaaDoor.fnExactTakeDelta
open Go Go.ChangeShapes Go.WideShapes Go.ChangeAt Go.RowKit

theorem own : ownKnob Tryd.prog.godebug = none := by kernel_rfl
theorem laidOut : laidOutB Tryd.prog = true := by kernel_rfl
theorem fnSays {H : Type} (ds gs : List (DataW H)) (h1 : ds.length = Tryd.f4.params.toList.length) (h2 : gs.length = Rows.fnExactTakeDeltaSpec.vars.length) :
    Rows.fnExactTakeDeltaSpec.fn H (ds ++ gs) = { results := [.lit (.bool true)], args := ds, vars := gs } := by
  match ds, gs, h1, h2 with
  | [d1], [], _, _ => rfl
set_option maxRecDepth 100000 in
theorem lifted (os : Os) (started : os.Started) (H : Type) (enc : TypeId × Value → H) :
    ReturnsInHanded {} Tryd.checked os 4 .any (fun w args => (Rows.fnExactTakeDeltaSpec.pre enc Tryd.prog Tryd.f4 [] false w args ∧ laidMetH Tryd.prog Rows.fnExactTakeDeltaRow.laid w) ∧ sizedMet enc Tryd.prog Tryd.f4 (OpenSpec.ofChange Rows.fnExactTakeDeltaSpec) false w args)
      (Rows.fnExactTakeDeltaSpec.post enc Tryd.prog Tryd.f4 false true false false) := by
  refine returnsInHanded_of_change_and (C := Tryd.checked) (X := fun w _ => laidMetH Tryd.prog Rows.fnExactTakeDeltaRow.laid w) (fun _ _ _ hh h => h.of_heap hh) own started (by kernel_rfl) Tryd.func4
    (ChangeSpec.witness_shaped (enc := enc) (C := Tryd.checked) (os := os) (X := fun w _ => laidMetH Tryd.prog Rows.fnExactTakeDeltaRow.laid w) false (World.laidAll Tryd.prog os Rows.fnExactTakeDeltaRow.laid) #[.string (ByteArray.mk #[])] 8 (World.laidAll_os _ _ _) (World.shaped_of_ZipB (by kernel_rfl) (by kernel_rfl)) (by kernel_rfl) (by kernel_rfl) (by kernel_rfl)
      (by rw [MakeChecks.laidMetH_plain _ _ _ (by kernel_rfl)]; exact laidMet_laidAll _ (by kernel_rfl) (by kernel_rfl))) ?_
  intro W base args ds gs before hval hW _ _ hL _
  exact (walk_FnExactTakeDelta H enc W base args ds gs before hval hW (by first | exact hL | trivial)).mono fun e W' ⟨he, hb⟩ => ⟨.bool true, he, G294.post_law laidOut (by kernel_rfl) (by kernel_rfl) (show Tryd.f4.resultTypes = #[4] from rfl) Tryd.underlying4 fnSays hW hb⟩

theorem rowHolds : Rows.FnExactTakeDeltaSaid :=
  OpenClaim.holds_of_wide 4 Tryd.f4 rfl rfl rfl rfl rfl rfl rfl ⟨rfl, rfl, rfl, rfl, rfl⟩ rfl rfl rfl rfl rfl (by kernel_rfl) Tryd.func4 (by kernel_rfl)
    (of_decide_eq_true (by kernel_rfl)) (by unfold Func.isWrapper; first | (rw [if_pos (by decide +kernel)]; kernel_rfl) | (rw [if_neg (by decide +kernel)]; exact ⟨rfl, rfl⟩))
    (fun os started H enc _ => lifted os started H enc)
end Go.Proofs.YtlhipceepoenfaaDoor.fnExactTakeDelta
namespace Go.Proofs.YtlhipceepoenfaaDoor
open Go
/-- At every argument TakeDelta answers as its specification, modifies nothing and returns always. Conditions: none. -/
theorem proved_FnExactTakeDelta : Rows.FnExactTakeDeltaCardSaid :=
  Claim7.holds_tied_plain_at .later [] [.data, .pinned] true (true, "766a583bcffa67a39b52e4bf6221bcf652eb96512a81c6c6436b0fa46b50ee79") false
    fnExactTakeDelta.rowHolds (fun _ h => by cases h) (by kernel_rfl) (fun _ h => by cases h) fnExactTakeDelta_row_tie rfl ⟨rfl, rfl⟩ (by kernel_rfl) rfl
    (fun f fn hf hfn => by
      obtain rfl : f = 4 := Option.some.inj ((show Tryd.prog.funcNamed Rows.fnExactTakeDeltaRow.func = some 4 by kernel_rfl).symm.trans hf) |>.symm
      obtain rfl : fn = Tryd.f4 := (Option.some.inj (Tryd.func4.symm.trans hfn)).symm
      exact ⟨by kernel_rfl, fun j t ht => by
        rw [Tryd.params4] at ht
        have hm : t ∈ [9] := by simpa using Array.mem_of_getElem? ht
        have hall : ([9].all fun u => !Tryd.prog.wantsStandIn u) = true := by kernel_rfl
        exact (show Tryd.prog.wantsStandIn t = false by simpa using List.all_eq_true.1 hall t hm)⟩)
    (by kernel_rfl)
#print axioms proved_FnExactTakeDelta
end Go.Proofs.YtlhipceepoenfaaDoor
