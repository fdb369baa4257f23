/- markText. -/
import Derived.Test.YtbfchebnooanjaaStrMem
import Derived.Laws.Concat
set_option linter.unusedSimpArgs false
set_option linter.unusedVariables false
namespace Go.Proofs.Ytbfchebnooanjaa
open Go.RowKit G294

end Go.Proofs.Ytbfchebnooanjaa
