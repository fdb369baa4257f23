/- The methods of field bytes. -/
import Derived.Test.YtbfchebnooanjaaFieldBytes
import Derived.Test.YtbfchebnooanjaaNewGrid
set_option linter.unusedSimpArgs false
set_option linter.unusedVariables false
namespace Go.Proofs.Ytbfchebnooanjaa
open Go.RowKit G294