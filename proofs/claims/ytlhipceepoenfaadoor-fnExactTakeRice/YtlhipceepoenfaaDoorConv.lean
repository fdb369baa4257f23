/- identityGrid and converted, on bytes and on field bytes. -/
import Derived.Test.YtlhipceepoenfaaDoorNewGrid
set_option linter.unusedSimpArgs false
set_option linter.unusedVariables false
namespace Go.Proofs.YtlhipceepoenfaaDoor
open Go.RowKit G294

end Go.Proofs.YtlhipceepoenfaaDoor
