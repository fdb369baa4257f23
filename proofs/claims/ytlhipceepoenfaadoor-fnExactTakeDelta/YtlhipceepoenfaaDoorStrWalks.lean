/- Contracts of the laws' helpers on []string: a copy, equality, marks, marks held, sizes. -/
import Derived.Test.YtlhipceepoenfaaDoorBytesWalks
import Derived.Test.YtlhipceepoenfaaDoorMarkText
import Derived.Test.YtlhipceepoenfaaDoorMatMem
import Derived.Deep.RegionHeld3
set_option linter.unusedSimpArgs false
set_option linter.unusedVariables false
namespace Go.Proofs.YtlhipceepoenfaaDoor
open Go.RowKit G294

theorem infoStr : (Tryd.prog.info? 9).map (fun i => (i.zero, i.size, i.bytes)) = some (some (.string ⟨#[]⟩), 1, 16) := by kernel_rfl

end Go.Proofs.YtlhipceepoenfaaDoor
