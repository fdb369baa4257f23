/-
  DERIVED. GIVEN WITH THE SEED: THE PROGRAM's TIES (one call each: nine closed facts by the kernel) AND EACH ROW's TIE, after the 31st guide's Derived/Test/Toyas{Tie, Card}.lean. No idea stands in it: it is a product of the set-up. Laid BY PROGRAM, IN A SANDBOX (cutbox-door.mjs). By AI agents, Wed Nov 11 2026. No macro, syntax, notation, axiom, sorry.
-/
import Derived.Test.YtfglkgeeelapgaaDoorRows
import Derived.LaidByTextLater
import Derived.SevenTiedAt
import Derived.LaidSub
import Derived.LaidOnce
namespace Go.Proofs.YtfglkgeeelapgaaDoor
open Go
set_option maxRecDepth 100000
theorem seatTie1 : Tryd.prog.laidByTextLater [("loop.example/g00294/impl.remainders", Rows.laid_loop_example_g00294_impl_remainders), ("loop.example/g00294/impl.errWordSize", Rows.laid_loop_example_g00294_impl_errWordSize), ("loop.example/g00294/impl.errNoWord", Rows.laid_loop_example_g00294_impl_errNoWord)] [.data, .sentinel, .sentinel] true :=
  Program.laidByTextLater_by_one 52 8 8 (by kernel_rfl) (by kernel_rfl) (by kernel_rfl) (by kernel_rfl) (by kernel_rfl) (by kernel_rfl) (fun _ _ => by kernel_rfl)
theorem noOwnUnsafe : Tryd.pinned.checked.prog.headLifts.contains "ownunsafe" = false := by kernel_rfl
theorem tie : Tryd.prog.laidByTextLater [("loop.example/g00294/impl.remainders", Rows.laid_loop_example_g00294_impl_remainders)] [.data] true :=
  Program.laidByTextLater.sub seatTie1 ["loop.example/g00294/impl.remainders"] (by kernel_rfl) (by kernel_rfl)
theorem fnMerged_row_tie : Rows.fnMergedRow.laidByTextAt .later Tryd.pinned [.data] true :=
  OpenClaim.laidByTextAt_later rfl rfl tie noOwnUnsafe
theorem fnMended_row_tie : Rows.fnMendedRow.laidByTextAt .later Tryd.pinned [.data] true :=
  OpenClaim.laidByTextAt_later rfl rfl tie noOwnUnsafe
theorem fnExactGeneratorOf_row_tie : Rows.fnExactGeneratorOfRow.laidByTextAt .later Tryd.pinned [.data] true :=
  OpenClaim.laidByTextAt_later rfl rfl tie noOwnUnsafe
theorem fnExactEncodeWord_row_tie : Rows.fnExactEncodeWordRow.laidByTextAt .later Tryd.pinned [.data] true :=
  OpenClaim.laidByTextAt_later rfl rfl tie noOwnUnsafe
theorem fnExactSyndromesOf_row_tie : Rows.fnExactSyndromesOfRow.laidByTextAt .later Tryd.pinned [.data] true :=
  OpenClaim.laidByTextAt_later rfl rfl tie noOwnUnsafe
theorem tie2 : Tryd.prog.laidByTextLater [("loop.example/g00294/impl.remainders", Rows.laid_loop_example_g00294_impl_remainders), ("loop.example/g00294/impl.errWordSize", Rows.laid_loop_example_g00294_impl_errWordSize), ("loop.example/g00294/impl.errNoWord", Rows.laid_loop_example_g00294_impl_errNoWord)] [.data, .sentinel, .sentinel] true :=
  Program.laidByTextLater.sub seatTie1 ["loop.example/g00294/impl.remainders", "loop.example/g00294/impl.errWordSize", "loop.example/g00294/impl.errNoWord"] (by kernel_rfl) (by kernel_rfl)
theorem fnExactIsWord_row_tie : Rows.fnExactIsWordRow.laidByTextAt .later Tryd.pinned [.data, .sentinel, .sentinel] true :=
  OpenClaim.laidByTextAt_later rfl rfl tie2 noOwnUnsafe
theorem tie3 : Tryd.prog.laidByTextLater [("loop.example/g00294/impl.remainders", Rows.laid_loop_example_g00294_impl_remainders), ("loop.example/g00294/impl.errWordSize", Rows.laid_loop_example_g00294_impl_errWordSize)] [.data, .sentinel] true :=
  Program.laidByTextLater.sub seatTie1 ["loop.example/g00294/impl.remainders", "loop.example/g00294/impl.errWordSize"] (by kernel_rfl) (by kernel_rfl)
theorem fnExactDataOf_row_tie : Rows.fnExactDataOfRow.laidByTextAt .later Tryd.pinned [.data, .sentinel] true :=
  OpenClaim.laidByTextAt_later rfl rfl tie3 noOwnUnsafe
theorem fnMergedUpto_row_tie : Rows.fnMergedUptoRow.laidByTextAt .later Tryd.pinned [.data] true :=
  OpenClaim.laidByTextAt_later rfl rfl tie noOwnUnsafe
theorem fnMendedUpto_row_tie : Rows.fnMendedUptoRow.laidByTextAt .later Tryd.pinned [.data] true :=
  OpenClaim.laidByTextAt_later rfl rfl tie noOwnUnsafe
theorem fnExactGeneratorOfUpto_row_tie : Rows.fnExactGeneratorOfUptoRow.laidByTextAt .later Tryd.pinned [.data] true :=
  OpenClaim.laidByTextAt_later rfl rfl tie noOwnUnsafe
theorem fnExactEncodeWordUpto_row_tie : Rows.fnExactEncodeWordUptoRow.laidByTextAt .later Tryd.pinned [.data] true :=
  OpenClaim.laidByTextAt_later rfl rfl tie noOwnUnsafe
theorem fnExactSyndromesOfUpto_row_tie : Rows.fnExactSyndromesOfUptoRow.laidByTextAt .later Tryd.pinned [.data] true :=
  OpenClaim.laidByTextAt_later rfl rfl tie noOwnUnsafe
theorem fnExactIsWordUpto_row_tie : Rows.fnExactIsWordUptoRow.laidByTextAt .later Tryd.pinned [.data, .sentinel, .sentinel] true :=
  OpenClaim.laidByTextAt_later rfl rfl tie2 noOwnUnsafe
theorem fnExactDataOfUpto_row_tie : Rows.fnExactDataOfUptoRow.laidByTextAt .later Tryd.pinned [.data, .sentinel] true :=
  OpenClaim.laidByTextAt_later rfl rfl tie3 noOwnUnsafe
end Go.Proofs.YtfglkgeeelapgaaDoor
