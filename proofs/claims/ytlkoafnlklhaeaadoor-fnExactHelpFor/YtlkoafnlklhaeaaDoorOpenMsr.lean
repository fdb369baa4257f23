/- From the readings of a law's arguments to what its walk asks: a struct of two ints. -/
import Derived.Test.YtlkoafnlklhaeaaDoorProg
import Derived.Test.YtlkoafnlklhaeaaDoorOpenArgs
import Derived.Test.YtlkoafnlklhaeaaDoorMsr
import Derived.Test.YtlkoafnlklhaeaaDoorOpenLoc
import Derived.Lib.SmallJoins
set_option linter.unusedSimpArgs false
set_option linter.unusedVariables false
namespace G294
open Go Go.ChangeShapes Go.WideShapes Go.ChangeAt Go.RowKit Go.Deep Go.Joins
section
variable {H : Type} {enc : TypeId × Value → H} {P : Program} {W : World} {base : Nat} {t : TypeId} {v : Value} {d : DataW H} {p : List MemPlace} {f0 f1 : Field}
theorem open_two (hs : P.underlying t = some (.struct #[f0, f1])) (hone : oneCellFields P #[f0, f1] = true) (hC : P.cellsOf t = 2) (u0 : P.underlying f0.type = some (.int .i64)) (u1 : P.underlying f1.type = some (.int .i64))
    (hv : Value.okWide P W .any base t v) (h : DataW.Trod enc P W 0 (fun _ => true) true t v d p) : ∃ g e : Int, v = .agg #[.int .i64 g, .int .i64 e] := by
  obtain ⟨v0, v1, y0, y1, n, rfl, _, _, h0, h1⟩ := open_agg2 hs hone hC hv h
  obtain ⟨g, hg, _⟩ := DataW.trod_int u0 h0
  obtain ⟨e, he, _⟩ := DataW.trod_int u1 h1
  simp only [List.cons.injEq, and_true] at hg he
  exact ⟨g, e, by rw [hg, he]⟩
end
end G294
