/- identityGrid and converted, on bytes and on field bytes. -/
import Derived.Test.YtbfchebnooanjaaNewGrid
set_option linter.unusedSimpArgs false
set_option linter.unusedVariables false
namespace Go.Proofs.Ytbfchebnooanjaa
open Go.RowKit G294

end Go.Proofs.Ytbfchebnooanjaa
