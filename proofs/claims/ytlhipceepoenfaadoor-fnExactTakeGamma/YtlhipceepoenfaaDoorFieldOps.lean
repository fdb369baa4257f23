/- The methods of field bytes. -/
import Derived.Test.YtlhipceepoenfaaDoorFieldBytes
import Derived.Test.YtlhipceepoenfaaDoorNewGrid
set_option linter.unusedSimpArgs false
set_option linter.unusedVariables false
namespace Go.Proofs.YtlhipceepoenfaaDoor
open Go.RowKit G294