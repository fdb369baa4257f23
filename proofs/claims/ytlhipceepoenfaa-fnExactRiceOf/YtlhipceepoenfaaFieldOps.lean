/- The methods of field bytes. -/
import Derived.Test.YtlhipceepoenfaaFieldBytes
import Derived.Test.YtlhipceepoenfaaNewGrid
set_option linter.unusedSimpArgs false
set_option linter.unusedVariables false
namespace Go.Proofs.Ytlhipceepoenfaa
open Go.RowKit G294