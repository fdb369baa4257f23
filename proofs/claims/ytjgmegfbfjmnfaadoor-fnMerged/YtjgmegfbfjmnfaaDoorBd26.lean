/- Joined texts: TabOf. -/
import Derived.Test.YtjgmegfbfjmnfaaDoorRows
import Derived.Test.YtjgmegfbfjmnfaaDoorBd00
import Derived.Test.YtjgmegfbfjmnfaaDoorBd03
set_option linter.unusedSimpArgs false
set_option linter.unusedVariables false
/- The table of remainders, out of what a row lays. -/
namespace Go.Proofs.YtjgmegfbfjmnfaaDoor
open Go.ChangeShapes Go.WideShapes Go.ChangeAt Go.RowKit

theorem byte_of_wf {x : Int} (h : (Lit.int .u8 x).wf = true) : ∃ n : Nat, n < 256 ∧ x = n := by
  have hb := bounds_u8 h
  exact ⟨x.toNat, by omega, by omega⟩
theorem tab_of {laid : List (String × DataW Unit)} {W : World} (hpl : (laid.all fun x => x.2.handleName?.isNone) = true) (h : laidMetH Tryd.prog laid W) (i : Nat) {name : String}
    (hi : laid[i]? = some (name, Lib.tabData .u8 [27, 54, 108, 216, 171, 77, 154])) (hg : Tryd.prog.globalNamed name = some 0) : Tab W ∧ 0 < W.heap.size := by
  obtain ⟨hc, hs⟩ := G294.tab_of_laid hpl h i (g := 0) (t := 151) (e := 5) (n := 7) hi hg (by kernel_rfl) Tryd.underlying151 Tryd.underlying5 (by kernel_rfl) (by kernel_rfl)
  refine ⟨fun k hk => ?_, hs⟩
  have := hc k (by simpa using hk)
  rw [this]
  have : k = 0 ∨ k = 1 ∨ k = 2 ∨ k = 3 ∨ k = 4 ∨ k = 5 ∨ k = 6 := by omega
  rcases this with rfl | rfl | rfl | rfl | rfl | rfl | rfl <;> rfl

end Go.Proofs.YtjgmegfbfjmnfaaDoor
