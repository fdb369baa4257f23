/-
  DERIVED. GIVEN WITH THE SEED: THE PROGRAM's TIES (one call each: nine closed facts by the kernel) AND EACH ROW's TIE, after the 31st guide's Derived/Test/Toyas{Tie, Card}.lean. No idea stands in it: it is a product of the set-up. Laid BY PROGRAM, IN A SANDBOX (cutbox-door.mjs). By AI agents, Wed Nov 11 2026. No macro, syntax, notation, axiom, sorry.
-/
import Derived.Test.YtblfobbeojdihaaGreatDoorRows
import Derived.LaidByTextLater
import Derived.SevenTiedAt
import Derived.LaidSub
import Derived.LaidOnce
namespace Go.Proofs.YtblfobbeojdihaaGreatDoor
open Go
set_option maxRecDepth 100000
theorem seatTie1 : Tryz.prog.laidByTextLater [("errors.errorType", Rows.laid_errors_errorType), ("loop.example/g00294/impl.remainders", Rows.laid_loop_example_g00294_impl_remainders), ("loop.example/g00294/impl.errWordSize", Rows.laid_loop_example_g00294_impl_errWordSize), ("loop.example/g00294/impl.errNoWord", Rows.laid_loop_example_g00294_impl_errNoWord)] [.handle, .data, .sentinel, .sentinel] true :=
  Program.laidByTextLater_by_one 59 8 8 (by kernel_rfl) (by kernel_rfl) (by kernel_rfl) (by kernel_rfl) (by kernel_rfl) (by kernel_rfl) (fun _ _ => by kernel_rfl)
theorem noOwnUnsafe : Tryz.pinned.checked.prog.headLifts.contains "ownunsafe" = false := by kernel_rfl
theorem tie : Tryz.prog.laidByTextLater [("errors.errorType", Rows.laid_errors_errorType), ("loop.example/g00294/impl.remainders", Rows.laid_loop_example_g00294_impl_remainders), ("loop.example/g00294/impl.errWordSize", Rows.laid_loop_example_g00294_impl_errWordSize), ("loop.example/g00294/impl.errNoWord", Rows.laid_loop_example_g00294_impl_errNoWord)] [.handle, .data, .sentinel, .sentinel] true :=
  Program.laidByTextLater.sub seatTie1 ["errors.errorType", "loop.example/g00294/impl.remainders", "loop.example/g00294/impl.errWordSize", "loop.example/g00294/impl.errNoWord"] (by kernel_rfl) (by kernel_rfl)
theorem fnCorrected_row_tie : Rows.fnCorrectedRow.laidByTextAt .later Tryz.pinned [.handle, .data, .sentinel, .sentinel] true :=
  OpenClaim.laidByTextAt_later rfl rfl tie noOwnUnsafe
theorem tie2 : Tryz.prog.laidByTextLater [("loop.example/g00294/impl.remainders", Rows.laid_loop_example_g00294_impl_remainders), ("loop.example/g00294/impl.errWordSize", Rows.laid_loop_example_g00294_impl_errWordSize), ("loop.example/g00294/impl.errNoWord", Rows.laid_loop_example_g00294_impl_errNoWord)] [.data, .sentinel, .sentinel] true :=
  Program.laidByTextLater.sub seatTie1 ["loop.example/g00294/impl.remainders", "loop.example/g00294/impl.errWordSize", "loop.example/g00294/impl.errNoWord"] (by kernel_rfl) (by kernel_rfl)
theorem fnSpaced_row_tie : Rows.fnSpacedRow.laidByTextAt .later Tryz.pinned [.data, .sentinel, .sentinel] true :=
  OpenClaim.laidByTextAt_later rfl rfl tie2 noOwnUnsafe
theorem fnCorrectedUpto_row_tie : Rows.fnCorrectedUptoRow.laidByTextAt .later Tryz.pinned [.handle, .data, .sentinel, .sentinel] true :=
  OpenClaim.laidByTextAt_later rfl rfl tie noOwnUnsafe
theorem fnSpacedUpto_row_tie : Rows.fnSpacedUptoRow.laidByTextAt .later Tryz.pinned [.data, .sentinel, .sentinel] true :=
  OpenClaim.laidByTextAt_later rfl rfl tie2 noOwnUnsafe
end Go.Proofs.YtblfobbeojdihaaGreatDoor
