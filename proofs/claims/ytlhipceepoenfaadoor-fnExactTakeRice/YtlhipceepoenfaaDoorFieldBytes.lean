/- The contracts of the products, on bytes. -/
import Derived.Test.YtlhipceepoenfaaDoorFieldWalksB
import Derived.Test.YtlhipceepoenfaaDoorVecMath
set_option linter.unusedSimpArgs false
set_option linter.unusedVariables false
namespace Go.Proofs.YtlhipceepoenfaaDoor
open Go.RowKit G294

end Go.Proofs.YtlhipceepoenfaaDoor
