/- markText. -/
import Derived.Test.YtlhipceepoenfaaStrMem
import Derived.Laws.Concat
set_option linter.unusedSimpArgs false
set_option linter.unusedVariables false
namespace Go.Proofs.Ytlhipceepoenfaa
open Go.RowKit G294

end Go.Proofs.Ytlhipceepoenfaa
