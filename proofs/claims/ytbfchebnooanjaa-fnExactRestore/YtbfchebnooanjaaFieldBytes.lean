/- The contracts of the products, on bytes. -/
import Derived.Test.YtbfchebnooanjaaFieldWalksB
import Derived.Test.YtbfchebnooanjaaVecMath
set_option linter.unusedSimpArgs false
set_option linter.unusedVariables false
namespace Go.Proofs.Ytbfchebnooanjaa
open Go.RowKit G294

end Go.Proofs.Ytbfchebnooanjaa
