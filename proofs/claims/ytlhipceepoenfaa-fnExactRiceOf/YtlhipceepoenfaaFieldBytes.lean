/- The contracts of the products, on bytes. -/
import Derived.Test.YtlhipceepoenfaaFieldWalksB
import Derived.Test.YtlhipceepoenfaaVecMath
set_option linter.unusedSimpArgs false
set_option linter.unusedVariables false
namespace Go.Proofs.Ytlhipceepoenfaa
open Go.RowKit G294

end Go.Proofs.Ytlhipceepoenfaa
