/- turned and identityGrid, on bytes and on field bytes. -/
import Derived.Test.YtgbhcjfnkjhkiaaDoorNewGrid
set_option linter.unusedSimpArgs false
set_option linter.unusedVariables false
namespace Go.Proofs.YtgbhcjfnkjhkiaaDoor
open Go.RowKit G294

end Go.Proofs.YtgbhcjfnkjhkiaaDoor
