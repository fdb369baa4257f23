/- The contracts of the products, on bytes. -/
import Derived.Test.YtdbgkpmdimapdaaFieldWalksB
import Derived.Test.YtdbgkpmdimapdaaVecMath
set_option linter.unusedSimpArgs false
set_option linter.unusedVariables false
namespace Go.Proofs.Ytdbgkpmdimapdaa
open Go.RowKit G294

end Go.Proofs.Ytdbgkpmdimapdaa
