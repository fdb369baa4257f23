/- markText. -/
import Derived.Test.YtlhipceepoenfaaDoorStrMem
import Derived.Laws.Concat
set_option linter.unusedSimpArgs false
set_option linter.unusedVariables false
namespace Go.Proofs.YtlhipceepoenfaaDoor
open Go.RowKit G294

end Go.Proofs.YtlhipceepoenfaaDoor
