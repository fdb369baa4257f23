/- goodVector and goodPair. -/
import Derived.Test.YtbopocpmodpfcaaDoorVecMath
import Derived.Test.YtbopocpmodpfcaaDoorBytesOwn
set_option linter.unusedSimpArgs false
set_option linter.unusedVariables false
namespace Go.Proofs.YtbopocpmodpfcaaDoor
open Go.RowKit G294

end Go.Proofs.YtbopocpmodpfcaaDoor
