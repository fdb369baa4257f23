/- A call that makes a text, in a region that draws its order. -/
import Derived.Test.YtlhipceepoenfaaStrMem
import Derived.Test.YtlhipceepoenfaaGrew
import Derived.BigRegion
import Derived.RegionTactic
set_option linter.unusedSimpArgs false
set_option linter.unusedVariables false
namespace G294
open Go Go.RowKit
theorem grew_str {P : Program} {f : FuncId} {args : Array Value} {w : World} {p : Grew w} {s : List UInt8} (h : Calls P f args p.at_ (RetStr p.at_ s)) :
    Calls P f args p.at_ fun e w'' => e = .returned (.string (str s)) ∧ ∃ q : Grew w, w'' = q.at_ :=
  h.mono fun _ w'' ⟨he, ht⟩ => ⟨he, ⟨w'', ht.base p.old p.old.size (by omega)⟩, rfl⟩
end G294
