/- The methods of field bytes. -/
import Derived.Test.YtjgmegfbfjmnfaaFieldBytes
import Derived.Test.YtjgmegfbfjmnfaaNewGrid
set_option linter.unusedSimpArgs false
set_option linter.unusedVariables false
namespace Go.Proofs.Ytjgmegfbfjmnfaa
open Go.RowKit G294