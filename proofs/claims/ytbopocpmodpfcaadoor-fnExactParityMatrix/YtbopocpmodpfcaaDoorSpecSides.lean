/- The model's Identity, Vandermonde and Cauchy. -/
import Derived.Test.YtbopocpmodpfcaaDoorSpecFill
set_option linter.unusedSimpArgs false
set_option linter.unusedVariables false
namespace Go.Proofs.YtbopocpmodpfcaaDoor
open Go.RowKit G294

end Go.Proofs.YtbopocpmodpfcaaDoor
