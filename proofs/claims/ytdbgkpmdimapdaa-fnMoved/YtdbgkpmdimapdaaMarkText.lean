/- markText. -/
import Derived.Test.YtdbgkpmdimapdaaStrMem
import Derived.Laws.Concat
set_option linter.unusedSimpArgs false
set_option linter.unusedVariables false
namespace Go.Proofs.Ytdbgkpmdimapdaa
open Go.RowKit G294

end Go.Proofs.Ytdbgkpmdimapdaa
