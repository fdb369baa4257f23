/- The contracts of the products, on bytes. -/
import Derived.Test.YtjgmegfbfjmnfaaFieldWalksB
import Derived.Test.YtjgmegfbfjmnfaaVecMath
set_option linter.unusedSimpArgs false
set_option linter.unusedVariables false
namespace Go.Proofs.Ytjgmegfbfjmnfaa
open Go.RowKit G294

end Go.Proofs.Ytjgmegfbfjmnfaa
