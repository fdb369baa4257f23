/- turned and identityGrid, on bytes and on field bytes. -/
import Derived.Test.YtlhipceepoenfaaNewGrid
set_option linter.unusedSimpArgs false
set_option linter.unusedVariables false
namespace Go.Proofs.Ytlhipceepoenfaa
open Go.RowKit G294

end Go.Proofs.Ytlhipceepoenfaa
