/- The two sentinels, out of what a row lays. -/
import Derived.Test.YtfglkgeeelapgaaDoorRows
import Derived.Test.YtfglkgeeelapgaaDoorTabOf
import Derived.Test.YtfglkgeeelapgaaDoorErrW6
import Derived.Stop.LaidErr
import Derived.Stop.LaidTwo
import Derived.Stop.JoinedAt
import Derived.Stop.Texts
set_option linter.unusedSimpArgs false
set_option linter.unusedVariables false
namespace Go.Proofs.YtfglkgeeelapgaaDoor
open Go.ChangeShapes Go.WideShapes Go.ChangeAt Go.RowKit

theorem starE : "*" ++ "errors.errorString" = "*errors.errorString" := by decide

theorem rowE (u : TypeId) (h : Tryd.prog.typeName? 3 u = some "*errors.errorString") : u = 182 :=
  typeName_ptr_named (nm := "errors.errorString") (by rw [starE]; kernel_rfl) (by kernel_rfl) (by decide) u (by rw [starE]; exact h)

theorem var_lt {P : Program} {W : World} {n : String} {g : Nat} {cs : Array Value} (hg : P.globalNamed n = some g) (h : W.var? P n = some cs) : g < W.heap.size := by
  unfold World.var? at h
  simp only [hg, Option.bind_some] at h
  rcases Nat.lt_or_ge g W.heap.size with h' | h'
  · exact h'
  · rw [Array.getElem?_eq_none h'] at h; cases h

theorem sen0_of {W : World} {text : List UInt8} {r : List (String × DataW Unit)} (h : laidMet Tryd.prog (("loop.example/g00294/impl.errWordSize", .iface "*errors.errorString" (.ptr (.agg [.lit (.string text)]))) :: r) W) :
    ∃ a0, W.cell? ⟨1, 0, none⟩ = some (.iface 182 (.pointer (some a0))) ∧ 1 < W.heap.size := by
  have hg : Tryd.prog.globalNamed "loop.example/g00294/impl.errWordSize" = some 1 := by kernel_rfl
  obtain ⟨a, s, hv, _⟩ := laid_sentinel h hg (by kernel_rfl) Tryd.underlying109 rowE Tryd.underlying182 Tryd.underlying206 rfl rfl Tryd.underlying9 (by kernel_rfl) (by kernel_rfl)
  exact ⟨a, by simpa using World.var?_cell hg hv 0, var_lt hg hv⟩

theorem sen_of {W : World} {text0 text1 : List UInt8} {r : List (String × DataW Unit)} (h : laidMet Tryd.prog (("loop.example/g00294/impl.errWordSize", .iface "*errors.errorString" (.ptr (.agg [.lit (.string text0)]))) :: ("loop.example/g00294/impl.errNoWord", .iface "*errors.errorString" (.ptr (.agg [.lit (.string text1)]))) :: r) W) : ∃ a0 a1, Sen W a0 a1 := by
  have hg0 : Tryd.prog.globalNamed "loop.example/g00294/impl.errWordSize" = some 1 := by kernel_rfl
  have hg1 : Tryd.prog.globalNamed "loop.example/g00294/impl.errNoWord" = some 0 := by kernel_rfl
  obtain ⟨a0, a1, s0, s1, c0, c1, t0, t1, hv0, hv1, hc0, hs0, hz0, hc1, hs1, hz1, hne, hb0, hb1⟩ := laid_sentinels2 h hg0 (by kernel_rfl) hg1 (by kernel_rfl) Tryd.underlying109 rowE Tryd.underlying182 Tryd.underlying206 rfl rfl Tryd.underlying9 (by kernel_rfl) (by kernel_rfl)
  exact ⟨a0, a1, by simpa using World.var?_cell hg0 hv0 0, by simpa using World.var?_cell hg1 hv1 0, var_lt hg0 hv0, var_lt hg1 hv1, hne, ⟨c0, t0, hb0⟩, ⟨c1, t1, hb1⟩⟩

end Go.Proofs.YtfglkgeeelapgaaDoor
