/- goodVector and goodPair. -/
import Derived.Test.YtipmfebnjmobfaaDoorVecMath
import Derived.Test.YtipmfebnjmobfaaDoorBytesOwn
set_option linter.unusedSimpArgs false
set_option linter.unusedVariables false
namespace Go.Proofs.YtipmfebnjmobfaaDoor
open Go.RowKit G294

end Go.Proofs.YtipmfebnjmobfaaDoor
