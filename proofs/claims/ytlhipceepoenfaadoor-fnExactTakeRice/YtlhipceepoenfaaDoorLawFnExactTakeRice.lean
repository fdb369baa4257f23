/- At every argument TakeRice answers as its specification, modifies nothing and returns always. Conditions: none. -/
import Derived.Test.YtlhipceepoenfaaDoorRows
import Derived.Test.YtlhipceepoenfaaDoorTie
import Derived.Test.YtlhipceepoenfaaDoorCards
import Derived.SevenTiedAt
import Derived.Lay
import Derived.LaidOnce
import Derived.Test.YtlhipceepoenfaaDoorFrame
import Derived.Test.YtlhipceepoenfaaDoorLawTakeRice
set_option linter.unusedSimpArgs false
set_option linter.unusedVariables false
namespace Go.Proofs.YtlhipceepoenfaaDoor.fnExactTakeRice
open Go Go.ChangeShapes Go.WideShapes Go.ChangeAt Go.RowKit

theorem own : ownKnob Tryd.prog.godebug = none := by kernel_rfl
theorem laidOut : laidOutB Tryd.prog = true := by kernel_rfl
theorem fnSays {H : Type} (ds gs : List (DataW H)) (h1 : ds.length = Tryd.f5.params.toList.length) (h2 : gs.length = Rows.fnExactTakeRiceSpec.vars.length) :
    Rows.fnExactTakeRiceSpec.fn H (ds ++ gs) = { results := [.lit (.bool true)], args := ds, vars := gs } := by
  match ds, gs, h1, h2 with
  | [d1, d2], [], _, _ => rfl
set_option maxRecDepth 100000 in
theorem lifted (os : Os) (started : os.Started) (H : Type) (enc : TypeId × Value → H) :
    ReturnsInHanded {} Tryd.checked os 5 .any (fun w args => (Rows.fnExactTakeRiceSpec.pre enc Tryd.prog Tryd.f5 [] false w args ∧ laidMetH Tryd.prog Rows.fnExactTakeRiceRow.laid w) ∧ sizedMet enc Tryd.prog Tryd.f5 (OpenSpec.ofChange Rows.fnExactTakeRiceSpec) false w args)
      (Rows.fnExactTakeRiceSpec.post enc Tryd.prog Tryd.f5 false true false false) := by
  refine returnsInHanded_of_change_and (C := Tryd.checked) (X := fun w _ => laidMetH Tryd.prog Rows.fnExactTakeRiceRow.laid w) (fun _ _ _ hh h => h.of_heap hh) own started (by kernel_rfl) Tryd.func5
    (ChangeSpec.witness_shaped (enc := enc) (C := Tryd.checked) (os := os) (X := fun w _ => laidMetH Tryd.prog Rows.fnExactTakeRiceRow.laid w) false (World.laidAll Tryd.prog os Rows.fnExactTakeRiceRow.laid) #[.string (ByteArray.mk #[]), .int .i64 0] 8 (World.laidAll_os _ _ _) (World.shaped_of_ZipB (by kernel_rfl) (by kernel_rfl)) (by kernel_rfl) (by kernel_rfl) (by kernel_rfl)
      (by rw [MakeChecks.laidMetH_plain _ _ _ (by kernel_rfl)]; exact laidMet_laidAll _ (by kernel_rfl) (by kernel_rfl))) ?_
  intro W base args ds gs before hval hW _ _ hL _
  exact (walk_FnExactTakeRice H enc W base args ds gs before hval hW (by first | exact hL | trivial)).mono fun e W' ⟨he, hb⟩ => ⟨.bool true, he, G294.post_law laidOut (by kernel_rfl) (by kernel_rfl) (show Tryd.f5.resultTypes = #[4] from rfl) Tryd.underlying4 fnSays hW hb⟩

theorem rowHolds : Rows.FnExactTakeRiceSaid :=
  OpenClaim.holds_of_wide 5 Tryd.f5 rfl rfl rfl rfl rfl rfl rfl ⟨rfl, rfl, rfl, rfl, rfl⟩ rfl rfl rfl rfl rfl (by kernel_rfl) Tryd.func5 (by kernel_rfl)
    (of_decide_eq_true (by kernel_rfl)) (by unfold Func.isWrapper; first | (rw [if_pos (by decide +kernel)]; kernel_rfl) | (rw [if_neg (by decide +kernel)]; exact ⟨rfl, rfl⟩))
    (fun os started H enc _ => lifted os started H enc)
end Go.Proofs.YtlhipceepoenfaaDoor.fnExactTakeRice
namespace Go.Proofs.YtlhipceepoenfaaDoor
open Go
/-- At every argument TakeRice answers as its specification, modifies nothing and returns always. Conditions: none. -/
theorem proved_FnExactTakeRice : Rows.FnExactTakeRiceCardSaid :=
  Claim7.holds_tied_plain_at .later [] [.data, .pinned] true (true, "766a583bcffa67a39b52e4bf6221bcf652eb96512a81c6c6436b0fa46b50ee79") false
    fnExactTakeRice.rowHolds (fun _ h => by cases h) (by kernel_rfl) (fun _ h => by cases h) fnExactTakeRice_row_tie rfl ⟨rfl, rfl⟩ (by kernel_rfl) rfl
    (fun f fn hf hfn => by
      obtain rfl : f = 5 := Option.some.inj ((show Tryd.prog.funcNamed Rows.fnExactTakeRiceRow.func = some 5 by kernel_rfl).symm.trans hf) |>.symm
      obtain rfl : fn = Tryd.f5 := (Option.some.inj (Tryd.func5.symm.trans hfn)).symm
      exact ⟨by kernel_rfl, fun j t ht => by
        rw [Tryd.params5] at ht
        have hm : t ∈ [9, 3] := by simpa using Array.mem_of_getElem? ht
        have hall : ([9, 3].all fun u => !Tryd.prog.wantsStandIn u) = true := by kernel_rfl
        exact (show Tryd.prog.wantsStandIn t = false by simpa using List.all_eq_true.1 hall t hm)⟩)
    (by kernel_rfl)
#print axioms proved_FnExactTakeRice
end Go.Proofs.YtlhipceepoenfaaDoor
